/- Contracts of packing samples into bytes, in the program and in the model, over this seat's translation. -/
import Derived.Test.YteiefngamccapaaPkMath
import Derived.Test.YteiefngamccapaaPi
import Derived.Test.YteiefngamccapaaBase
namespace Go.Proofs.Yteiefngamccapaa
open Go.RowKit Go.Deep

theorem new_cell1 {w : World} {o : Obj} {v : Value} {t : TypeId} : ∀ j u, [v][j]? = some u → ((w.alloc o).alloc (.cells #[v] t)).cell? ((⟨w.heap.size + 1, 0, none⟩ : Addr).add j) = some u := by
  intro j u hj
  have := new_cell (w := w.alloc o) (v := v) (t := t) j u hj
  rwa [World.size_alloc] at this
/-- The times of the first k samples, as cells. -/
def tmC (l : List Smp) (k : Nat) : List Value := ((l.map (·.1)).take k).map (Value.int .i64)
/-- The times of the first k samples have been gathered. -/
def TmInv (w : World) (l : List Smp) (k : Nat) (v : Value) (wr : World) : Prop := wr.ownsRow w.heap.size 3 1 v k (tmC l k) ∧ Below w.heap.size w wr
theorem tm_zero (w wr : World) (l : List Smp) (h : Below w.heap.size w wr) : TmInv w l 0 (.slice none 0 0) wr := ⟨World.ownsRow_nil _ _ _ _, h⟩
theorem tm_step {w wr w4 : World} {l : List Smp} {k : Nat} {v v' : Value} {o o' : Obj} {x : Int} (hk : k < l.length) (hx : x = tF l k) (h : TmInv w l k v wr)
    (ho' : w4.ownsRow w.heap.size 3 1 v' (k + 1) (tmC l k ++ [.int .i64 x])) (hg : ((wr.alloc o).alloc o').grownBy w4 v.ownBlock) : TmInv w l (k + 1) v' w4 := by
  obtain ⟨ho, hb⟩ := h
  have hb1 := hb.alloc hb.size o
  refine ⟨?_, own_grown (hb1.alloc hb1.size o') ((ho.alloc o).alloc o') hg (Nat.le_refl _)⟩
  have hk' : k < (l.map (·.1)).length := by simpa using hk
  unfold tmC at ho' ⊢
  rw [List.take_succ_eq_append_getElem hk', List.map_append]
  have e : (l.map (·.1))[k] = x := by rw [List.getElem_map, hx, tF_at hk]
  rw [e]
  exact ho'
theorem tm_all {w wr : World} {l : List Smp} {v : Value} (h : TmInv w l l.length v wr) : wr.ownsRow w.heap.size 3 1 v (l.map (·.1)).length ((l.map (·.1)).map (Value.int .i64)) := by
  have := h.1
  unfold tmC at this
  rw [List.take_of_length_le (by simp)] at this
  simpa using this
theorem xor_run {a b : Nat} (ha : a < 18446744073709551616) (hb : b < 18446744073709551616) : bits .xor .u64 (a : Int) (b : Int) = ((a ^^^ b : Nat) : Int) := bits_xor_u64_nat a b ha hb
theorem start_bytesP (l : List Smp) : [] ++ Lib.strCells (strE (l.map (·.1))) = Lib.byteCells (enc (l.map (·.1)) ++ tailK l 0) := by rw [List.nil_append, tailK_zero, List.append_nil]; rfl
theorem next_bytesP {l : List Smp} {k : Nat} (hk : k < l.length) : Lib.byteCells (enc (l.map (·.1)) ++ tailK l k) ++ Lib.strCells (txtV (fxV l k)) = Lib.byteCells (enc (l.map (·.1)) ++ tailK l (k + 1)) := by
  rw [tailK_succ hk, ← List.append_assoc, Lib.byteCells_append _ (putV (fxV l k))]; rfl
def PInv (w : World) (b : Nat) (l : List Smp) (k : Nat) (wr : World) : Prop := Lib.BuilderAt 134 5 b b (.pointer (some ⟨b, 0, none⟩)) (Lib.byteCells (enc (l.map (·.1)) ++ tailK l k)) wr ∧ Below b w wr

set_option maxHeartbeats 4000000 in
set_option maxRecDepth 100000 in
theorem bytes75 (ao : Option Addr) (cap : Nat) (l : List Smp) (hF : FitS l) (h8 : l.length ≤ 8) (w : World) (h : SRow w w.heap.size ao l) :
    Calls Try.prog 91 #[.slice ao l.length cap] w fun e w' => e = .returned (.string (strP l)) ∧ Below w.heap.size w w' := by
  have H := Lib.hid h
  have HF := Lib.hid hF
  have HT := Lib.hid (fit_times hF)
  clear h hF
  obtain ⟨i0, hi, hz0, hz1, hz2⟩ := info_parts Try.info3
  have hst := @run_store_float Try.prog
  go_enter Try.func91, Try.ntmps91
  go_wp2
  go_loopw [3, 15] (fun v i wr => ∃ k : Nat, k ≤ l.length ∧ i = .int .i64 k ∧ Hid (TmInv w l k v wr)) (fun _ i _ => l.length - (intOf i).toNat)
  case atStart => exact ⟨0, Nat.zero_le _, rfl, Lib.hid (tm_zero w w l (Below.refl _ _))⟩
  case round =>
    obtain ⟨k, hk, rfl, hI⟩ := hrel
    by_cases hlt : k < l.length
    · obtain ⟨b, off, hao, hbl, hc⟩ := H.out.tv (by omega)
      subst hao
      have c0 := (hI.out.2.cell (p := ⟨b, off + k * 2, none⟩) hbl).trans (hc k hlt).1
      have c1 := (hI.out.2.cell (p := ⟨b, off + k * 2 + 1, none⟩) hbl).trans (hc k hlt).2
      clear hc
      obtain ⟨t, ht⟩ : ∃ t, t = tF l k := ⟨_, rfl⟩
      obtain ⟨x, hx⟩ : ∃ x, x = vF l k := ⟨_, rfl⟩
      rw [← ht] at c0
      rw [← hx] at c1
      have HStep := Lib.hid (fun (w4 : World) (v' : Value) (o o' : Obj) ho' hg => tm_step (w4 := w4) (v' := v') (o := o) (o' := o') hlt ht hI.out ho' hg)
      have HO := Lib.hid hI.out.1
      have hsz := hI.out.2.size
      clear ht hx
      go_wp2_with (at_builtin; refine wpList_append_own _ rfl _ _ 47 rfl w.heap.size 3 i0 (.int .i64 0) 1 8 Try.underlying47 hi hz0 hz1 hz2 rfl (by decide) _ _ _ rfl ((HO.out.alloc _).alloc _) ⟨wr.heap.size + 1, 0, none⟩ 1 1 [.int .i64 t] rfl rfl new_cell1 ?c2 ?c3 ?c4 ?c5 ?_)
      case c2 => intro u hu; simp at hu; subst hu; rfl
      case c3 => unfold maxLen; omega
      case c4 => omega
      case c5 => simp; omega
      intro v' w4 hown' hgrow _
      have HI4 := Lib.hid (HStep.out _ _ _ _ hown' hgrow)
      clear hown' hgrow
      go_wp2
      go_roundw
      case rel => exact ⟨k + 1, by omega, by go_num, HI4⟩
      case measure => simp [intOf]; omega
    · obtain rfl : k = l.length := by omega
      obtain ⟨ao1, c1, hv1, hR1⟩ := IRow.of_own HT.out (tm_all hI.out)
      subst hv1
      have HR1 := Lib.hid hR1
      have HB1 := Lib.hid hI.out.2
      have HFits := Lib.hid (strE_fits HT.out (by simpa using h8))
      have HPut := Lib.hid (putF_yes HFits.out)
      have HSm := Lib.hid (strE_small HT.out (by simpa using h8))
      have hml : (l.map (·.1)).length = l.length := by simp
      have HC := Lib.hid (putl27 ao1 c1 (l.map (·.1)) (by rw [hml]; omega) wr HR1.out)
      rw [HPut.out, HFits.out] at HC
      clear hR1 hI
      generalize (l.map (·.1)).length = n1 at hml HC ⊢
      clear hml
      go_wp2_with fail
      refine HC.out.mono ?_
      rintro e w4 ⟨rfl, hb4⟩
      have HB4 := Lib.hid (HB1.out.trans (hb4.mono HB1.out.size))
      clear hb4 HC HR1 HB1
      have HF0 := Lib.hid (Lib.fresh_isBuilder 134 5 w4)
      have HBa := Lib.hid ((Below.refl w4.heap.size w4).alloc (Nat.le_refl _) (.cells #[.pointer none, .slice none 0 0] 134))
      have HS0 := Lib.hid (start_bytesP l)
      have HT2 := Lib.hid (tailK_len l)
      have HEl : Hid ((enc (l.map (·.1))).length ≤ 400) := Lib.hid (by have := HSm.out; simpa [strE, ByteArray.size] using this)
      obtain ⟨S, hS⟩ : ∃ S, S = strE (l.map (·.1)) := ⟨_, rfl⟩
      rw [← hS] at HS0 HSm ⊢
      have hSz := HSm.out
      clear hS
      go_wp2_with fail
      refine (write50 w4.heap.size w4.heap.size [] S _ HF0.out (by simp only [List.length_nil]; omega) HBa.out.size).mono ?_
      rintro e w6 ⟨⟨r6, rfl⟩, hA6, hb6⟩
      rw [HS0.out] at hA6
      have HI : Hid (PInv w4 w4.heap.size l 0 w6) := Lib.hid ⟨hA6, HBa.out.trans hb6⟩
      clear hA6 hb6 HF0 HBa HS0
      go_wp2_with fail
      go_loopw [9, 34] (fun q i wr => ∃ k : Nat, k ≤ l.length ∧ i = .int .i64 k ∧ q = .int .u64 (prevV l k : Nat) ∧ Hid (PInv w4 w4.heap.size l k wr)) (fun _ i _ => l.length - (intOf i).toNat)
      case atStart => exact ⟨0, Nat.zero_le _, rfl, by rw [prevV_zero]; rfl, HI⟩
      case round =>
        obtain ⟨k, hk, rfl, rfl, hI⟩ := hrel
        by_cases hlt : k < l.length
        · obtain ⟨b, off, hao, hbl, hc⟩ := (H.out.below HB4.out).tv (by omega)
          subst hao
          have hbl4 : b < w4.heap.size := Nat.lt_of_lt_of_le hbl HB4.out.size
          have c0 := (hI.out.2.cell (p := ⟨b, off + k * 2, none⟩) hbl4).trans (hc k hlt).1
          have c1 := (hI.out.2.cell (p := ⟨b, off + k * 2 + 1, none⟩) hbl4).trans (hc k hlt).2
          have HE := Lib.hid (next_bytesP hlt)
          have HX := Lib.hid (xor_run (vF_lt HF.out k) (prevV_lt HF.out k))
          have HXl := Lib.hid (xor_lt64 (vF_lt HF.out k) (prevV_lt HF.out k))
          have HPs := Lib.hid (prevV_succ l k)
          have hlen := HT2.out k
          have hlen2 := HEl.out
          unfold fxV at HE
          have HBb := Lib.hid (hI.out.2.alloc hI.out.2.size (.cells #[.int .i64 (tF l k), .float .f64 (vF l k)] 42))
          have HAb := Lib.hid (bld_below hI.out.1 ((Below.refl wr.heap.size wr).alloc (Nat.le_refl _) (.cells #[.int .i64 (tF l k), .float .f64 (vF l k)] 42)))
          clear hc hI
          generalize tF l k = t at c0 HBb HAb
          generalize vF l k = x at c1 HE HX HXl HPs HBb HAb
          generalize prevV l k = p at HE HX HXl ⊢
          go_wp2_with fail
          refine (bits17 x _).mono ?_
          rintro e w7 ⟨rfl, rfl⟩
          have hxor := HX.out
          generalize x ^^^ p = y at HE hxor HXl
          go_wp2_with fail
          refine (flip19 y HXl.out _).mono ?_
          rintro e w8 ⟨rfl, rfl⟩
          have HFl := Lib.hid (flipN_lt y)
          generalize flipN y = z at HE HFl
          go_wp2_with fail
          refine (put14 z HFl.out _).mono ?_
          rintro e w9 ⟨rfl, hb9⟩
          have hz := putV_ten HFl.out
          rw [← txtV_size] at hz
          have HA9 := Lib.hid (bld_below HAb.out hb9)
          have HB9 := Lib.hid (HBb.out.trans (hb9.mono HBb.out.size))
          clear hb9
          go_wp2_with fail
          refine (write50 w4.heap.size w4.heap.size (Lib.byteCells (enc (l.map (·.1)) ++ tailK l k)) (txtV z) _ (.inr HA9.out) (by rw [Lib.byteCells_length, List.length_append]; omega) HB9.out.size).mono ?_
          rintro e w10 ⟨⟨r10, rfl⟩, hA10, hb10⟩
          rw [HE.out] at hA10
          have HI10 : Hid (PInv w4 w4.heap.size l (k + 1) w10) := Lib.hid ⟨hA10, HB9.out.trans hb10⟩
          clear hA10 hb10
          go_wp2
          go_roundw
          case rel => exact ⟨k + 1, by omega, by go_num, by rw [HPs.out], HI10⟩
          case measure => simp [intOf]; omega
        · obtain rfl : k = l.length := by omega
          obtain ⟨hA, hb⟩ := hI.out
          rw [tailK_all] at hA
          have HA := Lib.hid hA
          have HB := Lib.hid (HB4.out.trans (hb.mono HB4.out.size))
          have hsz := hb.size
          have HC := Lib.hid (Try.Builder_String_any w4.heap.size w4.heap.size (packB l) _ (.inr HA.out) hsz)
          have he : (⟨(packB l).toArray⟩ : ByteArray) = strP l := rfl
          rw [he] at HC
          clear he HA hA hb hI
          obtain ⟨s, hs⟩ : ∃ s, s = strP l := ⟨_, rfl⟩
          have HSs := Lib.hid hs
          rw [← hs] at HC
          clear hs
          go_wp2_with fail
          refine HC.out.mono ?_
          rintro e w8 ⟨rfl, hb8⟩
          have HB8 := Lib.hid (HB.out.trans (hb8.mono HB4.out.size))
          clear hb8
          go_wp2
          go_ret
          exact ⟨ret_str HSs.out, HB8.out⟩
end Go.Proofs.Yteiefngamccapaa
