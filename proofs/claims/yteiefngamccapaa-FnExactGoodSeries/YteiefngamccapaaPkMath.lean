/- Mathematics of packing samples: the bytes told so far, and what a chunk holds. No program is spoken of. -/
import Derived.Test.YteiefngamccapaaGs
import Derived.Test.YteiefngamccapaaPl
namespace Go.Proofs.Yteiefngamccapaa

theorem xc_get : ∀ (p : Nat) (vs : List Nat) (k : Nat), k < vs.length → (xc p vs)[k]? = some (flipN (vs[k]?.getD 0 ^^^ (if k = 0 then p else vs[k - 1]?.getD 0)))
  | _, [], k, h => by simp at h
  | p, b :: r, 0, _ => by simp [xc]
  | p, b :: r, k + 1, h => by
    rw [xc, List.getElem?_cons_succ, xc_get b r k (by simpa using h)]
    cases k with
    | zero => simp
    | succ k => simp
/-- The value's bits ahead of a place. -/
def prevV (l : List Smp) (k : Nat) : Nat := if k = 0 then 0 else vF l (k - 1)
def fxV (l : List Smp) (k : Nat) : Nat := flipN (vF l k ^^^ prevV l k)
theorem prevV_zero (l : List Smp) : prevV l 0 = 0 := rfl
theorem prevV_succ (l : List Smp) (k : Nat) : prevV l (k + 1) = vF l k := by unfold prevV; rw [if_neg (by omega), Nat.add_sub_cancel]
theorem prevV_lt {l : List Smp} (h : FitS l) (k : Nat) : prevV l k < 18446744073709551616 := by
  unfold prevV
  split
  · decide
  · exact vF_lt h _
theorem xc_at {l : List Smp} {k : Nat} (hk : k < l.length) : (xc 0 (l.map (·.2)))[k]? = some (fxV l k) := by
  rw [xc_get 0 _ k (by simpa using hk)]
  unfold fxV prevV vF
  congr 2
  congr 1
  · simp [hk]
  · by_cases h0 : k = 0
    · rw [if_pos h0, if_pos h0]
    · rw [if_neg h0, if_neg h0]
      simp [show k - 1 < l.length by omega]
def tailK (l : List Smp) (k : Nat) : List UInt8 := byS ((xc 0 (l.map (·.2))).take k)
theorem tailK_zero (l : List Smp) : tailK l 0 = [] := by simp [tailK, byS_nil]
theorem tailK_succ {l : List Smp} {k : Nat} (hk : k < l.length) : tailK l (k + 1) = tailK l k ++ putV (fxV l k) := by
  unfold tailK
  have hk' : k < (xc 0 (l.map (·.2))).length := by rw [xc_len, List.length_map]; exact hk
  rw [List.take_succ_eq_append_getElem hk', byS_append, byS_one]
  have := xc_at hk
  rw [List.getElem?_eq_getElem hk'] at this
  injection this with this
  rw [this]
theorem tailK_all (l : List Smp) : enc (l.map (·.1)) ++ tailK l l.length = packB l := by
  unfold tailK packB
  rw [List.take_of_length_le (by rw [xc_len, List.length_map]; exact Nat.le_refl _)]
theorem tailK_len (l : List Smp) (k : Nat) : (tailK l k).length ≤ 10 * l.length := by
  unfold tailK
  have h := byS_len (us := (xc 0 (l.map (·.2))).take k) (fun u hu => xc_fit 0 _ u (List.mem_of_mem_take hu))
  rw [List.length_take, xc_len, List.length_map] at h
  omega
def txK (l : List Smp) (k : Nat) : ByteArray := ⟨(tailK l k).toArray⟩
def strP (l : List Smp) : ByteArray := ⟨(packB l).toArray⟩
theorem txK_size (l : List Smp) (k : Nat) : (txK l k).size = (tailK l k).length := by simp [txK, ByteArray.size]
theorem strP_size (l : List Smp) : (strP l).size = (packB l).length := by simp [strP, ByteArray.size]
theorem txK_zero (l : List Smp) : txK l 0 = ⟨#[]⟩ := by unfold txK; rw [tailK_zero]
theorem txK_succ {l : List Smp} {k : Nat} (hk : k < l.length) : txK l k ++ txtV (fxV l k) = txK l (k + 1) := by
  unfold txK txtV
  rw [tailK_succ hk, ByteArray.mk_append_mk]
theorem strE_txK (l : List Smp) : strE (l.map (·.1)) ++ txK l l.length = strP l := by
  unfold strE txK strP
  rw [← tailK_all, ByteArray.mk_append_mk]
theorem strE_fits {l : List Int} (h : ∀ x ∈ l, In64 x) (h8 : l.length ≤ 8) : fitsL l = true := by
  have h1 := encK_len (l := l) h (by omega) l.length
  rw [encK_all] at h1
  have h2 : (strE l).size = (enc l).length := by simp [strE, ByteArray.size]
  unfold fitsL
  simp
  omega
theorem strE_small {l : List Int} (h : ∀ x ∈ l, In64 x) (h8 : l.length ≤ 8) : (strE l).size ≤ 400 := by
  have := strE_fits h h8
  unfold fitsL at this
  simp at this
  exact this.2

abbrev Chk := ByteArray × Int × Int × Int
def zeroC : Chk := (⟨#[]⟩, 0, 0, 0)
/-- The chunk of samples. -/
def pkC (l : List Smp) : Chk := if l.length = 0 then zeroC else (strP l, (l.length : Int), tF l 0, tF l (l.length - 1))
theorem pkC_nil : pkC [] = zeroC := rfl
theorem pkC_some {l : List Smp} (h : 0 < l.length) : pkC l = (strP l, (l.length : Int), tF l 0, tF l (l.length - 1)) := by unfold pkC; rw [if_neg (by omega)]
theorem pkC_one {l l' : List Smp} (h : FitS l) (h' : FitS l') (he : pkC l = pkC l') : l = l' := by
  by_cases h0 : l.length = 0
  · have e0 : l = [] := List.eq_nil_of_length_eq_zero h0
    subst e0
    by_cases h1 : l'.length = 0
    · exact (List.eq_nil_of_length_eq_zero h1).symm
    · rw [pkC_nil, pkC_some (by omega)] at he
      have := congrArg (fun q => q.2.1) he
      simp only [zeroC] at this
      omega
  · by_cases h1 : l'.length = 0
    · have e1 : l' = [] := List.eq_nil_of_length_eq_zero h1
      subst e1
      rw [pkC_nil, pkC_some (by omega)] at he
      have := congrArg (fun q => q.2.1) he
      simp only [zeroC] at this
      omega
    · rw [pkC_some (by omega), pkC_some (by omega)] at he
      have e := congrArg (fun q => q.1.data.toList) he
      have e2 : packB l = packB l' := by simpa [strP] using e
      exact packB_one h h' e2
/-- Whether samples are packed. -/
def pkB (l : List Smp) : Bool := decide (l.length ≤ 8) && goodS l
def pkR (l : List Smp) : Chk := if pkB l = true then pkC l else zeroC
theorem pkB_long {l : List Smp} (h : 8 < l.length) : pkB l = false := by unfold pkB; simp; omega
theorem pkB_bad {l : List Smp} (h : goodS l = false) : pkB l = false := by unfold pkB; simp [h]
theorem pkB_good {l : List Smp} (h8 : l.length ≤ 8) (h : goodS l = true) : pkB l = true := by unfold pkB; simp [h, h8]
theorem pkR_no {l : List Smp} (h : pkB l = false) : pkR l = zeroC := by unfold pkR; rw [if_neg (by rw [h]; decide)]
theorem pkR_yes {l : List Smp} (h : pkB l = true) : pkR l = pkC l := by unfold pkR; rw [if_pos h]
theorem pkB_fit {l : List Smp} (h : pkB l = true) : l.length ≤ 8 ∧ goodS l = true := by unfold pkB at h; simpa using h
end Go.Proofs.Yteiefngamccapaa
