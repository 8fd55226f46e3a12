/- Contracts of the comparison of labels, in the program and in the model, over this seat's translation: both sides answer cmpLs. -/
import Derived.Test.YtoelcbfbpijfcaaDoorGoodm
import Derived.Lib.Bytealg
import Derived.Laws.Externs
import Derived.Laws.StructEq
import Derived.Deep.RegionHeld3
namespace Go.Proofs.YtoelcbfbpijfcaaDoor
open Go.RowKit Go.Deep

def cmpB (a b : ByteArray) : Int := Lib.compareBytes a.data.toList b.data.toList

theorem cmp_less : ∀ (a b : List UInt8), Lib.compareBytes a b = bif Op.bytesLess a b then -1 else bif a == b then 0 else 1
  | [], [] => rfl
  | [], _ :: _ => rfl
  | _ :: _, [] => rfl
  | x :: a, y :: b => by
    have ih := cmp_less a b
    unfold Lib.compareBytes Op.bytesLess
    by_cases h1 : x < y
    · simp [h1]
    · by_cases h2 : y < x
      · have hne : x ≠ y := by rintro rfl; exact h1 h2
        have hb : (x == y) = false := by simpa using hne
        simp [h1, h2, hb, List.cons_beq_cons]
      · have he : x = y := UInt8.le_antisymm (UInt8.not_lt.1 h2) (UInt8.not_lt.1 h1)
        subst he
        simp only [h1, if_false, ih]
        simp [List.cons_beq_cons]

theorem cmpB_eq (a b : ByteArray) : cmpB a b = bif less a b then -1 else bif a.toList == b.toList then 0 else 1 := by
  unfold cmpB less
  rw [cmp_less, Lib.toList_data, Lib.toList_data]
theorem less_irrefl' {a b : ByteArray} (h : (a.toList == b.toList) = true) : less a b = false := by
  have e : a.toList = b.toList := by simpa using h
  unfold less
  rw [e, Proofs.bytesLess_eq]
  simp
/-- Label by label: Name first, then Is. -/
def cmpLab (x y : Lab) : Int := bif cmpB x.1 y.1 == 0 then cmpB x.2 y.2 else cmpB x.1 y.1
def cmpLs : List Lab → List Lab → Int
  | [], [] => 0
  | [], _ :: _ => -1
  | _ :: _, [] => 1
  | x :: a, y :: b => bif cmpLab x y == 0 then cmpLs a b else cmpLab x y

theorem cmpB_range (a b : ByteArray) : -1 ≤ cmpB a b ∧ cmpB a b ≤ 1 := by
  rw [cmpB_eq]
  cases less a b <;> cases (a.toList == b.toList) <;> simp
theorem cmpLab_range (x y : Lab) : -1 ≤ cmpLab x y ∧ cmpLab x y ≤ 1 := by
  unfold cmpLab
  have h1 := cmpB_range x.1 y.1
  have h2 := cmpB_range x.2 y.2
  cases (cmpB x.1 y.1 == 0) <;> simpa using by assumption

theorem cmpLs_step {a b : List Lab} {k : Nat} (ha : k < a.length) (hb : k < b.length) (h : cmpLab a[k] b[k] = 0) : cmpLs (a.drop k) (b.drop k) = cmpLs (a.drop (k + 1)) (b.drop (k + 1)) := by
  rw [List.drop_eq_getElem_cons ha, List.drop_eq_getElem_cons hb, cmpLs, h]; rfl
theorem cmpLs_stop {a b : List Lab} {k : Nat} (ha : k < a.length) (hb : k < b.length) (h : cmpLab a[k] b[k] ≠ 0) : cmpLs (a.drop k) (b.drop k) = cmpLab a[k] b[k] := by
  rw [List.drop_eq_getElem_cons ha, List.drop_eq_getElem_cons hb, cmpLs]
  have : (cmpLab a[k] b[k] == 0) = false := by simpa using h
  rw [this]; rfl
theorem cmpLs_long {a b : List Lab} {k : Nat} (ha : k < a.length) (hb : b.length ≤ k) : cmpLs (a.drop k) (b.drop k) = 1 := by
  rw [List.drop_eq_getElem_cons ha, List.drop_eq_nil_of_le hb]; rfl
theorem cmpLs_short {a b : List Lab} {k : Nat} (ha : a.length ≤ k) (hb : k < b.length) : cmpLs (a.drop k) (b.drop k) = -1 := by
  rw [List.drop_eq_nil_of_le ha, List.drop_eq_getElem_cons hb]; rfl
theorem cmpLs_same {a b : List Lab} {k : Nat} (ha : a.length ≤ k) (hb : b.length ≤ k) : cmpLs (a.drop k) (b.drop k) = 0 := by
  rw [List.drop_eq_nil_of_le ha, List.drop_eq_nil_of_le hb]; rfl

theorem run123 (a b : ByteArray) (w : World) : (callFunc 123 #[.string a, .string b]).run Tryd.prog w = .ok (.value (.int .i64 (cmpB a b))) w := by
  rw [run_callFunc_extern (e := Extern.BytealgCompare.compare) Tryd.func123 (by kernel_rfl) (by kernel_rfl) (by kernel_rfl) (by kernel_rfl), Lib.run_compareString]
  rfl
theorem cmp111 (a b : ByteArray) (w : World) : Calls Tryd.prog 111 #[.string a, .string b] w fun e w' => e = .returned (.int .i64 (cmpB a b)) ∧ w = w' := by
  have h := run123
  go_enter Tryd.func111, Tryd.ntmps111
  go_wp2
  go_ret
  exact ⟨rfl, rfl⟩
theorem cmp90 (a b : ByteArray) (w : World) : Calls Tryd.prog 90 #[.string a, .string b] w fun e w' => e = .returned (.int .i64 (cmpB a b)) ∧ w = w' := by
  go_enter Tryd.func90, Tryd.ntmps90
  go_wp2_with fail
  refine (cmp111 a b w).mono ?_
  rintro e w' ⟨rfl, rfl⟩
  go_wp2
  go_ret
  exact ⟨rfl, rfl⟩
theorem names59 (a b c d : ByteArray) (w : World) : Calls Tryd.prog 59 #[.agg #[.string a, .string b], .agg #[.string c, .string d]] w fun e w' => e = .returned (.int .i64 (cmpB a c)) ∧ (w.alloc (.cells #[.string a, .string b] 31)).alloc (.cells #[.string c, .string d] 31) = w' := by
  go_enter Tryd.func59, Tryd.ntmps59
  go_wp2_with fail
  refine (cmp90 a c _).mono ?_
  rintro e w' ⟨rfl, rfl⟩
  go_wp2
  go_ret
  exact ⟨rfl, rfl⟩
theorem below_two (w : World) (o o' : Obj) : Below w.heap.size w ((w.alloc o).alloc o') := ((Below.refl _ _).alloc (Nat.le_refl _) _).alloc (by simp) _

theorem lab67 (a b c d : ByteArray) (w : World) : Calls Tryd.prog 67 #[.agg #[.string a, .string b], .agg #[.string c, .string d]] w fun e w' => e = .returned (.int .i64 (cmpLab (a, b) (c, d))) ∧ Below w.heap.size w w' := by
  by_cases h0 : cmpB a c = 0
  · have HC : Hid (cmpLab (a, b) (c, d) = cmpB b d) := by simp [Hid, cmpLab, h0]
    have HZ := Lib.hid h0
    clear h0
    go_enter Tryd.func67, Tryd.ntmps67
    go_wp2_with fail
    refine (names59 a b c d _).mono ?_
    rw [HZ.out]
    rintro e w' ⟨rfl, rfl⟩
    go_wp2_with fail
    refine (cmp90 b d _).mono ?_
    rintro e w' ⟨rfl, rfl⟩
    go_wp2
    go_ret
    exact ⟨ret_int HC.out.symm, (below_two _ _ _).trans ((below_two _ _ _).mono (by simp; omega))⟩
  · have hz : (cmpB a c == 0) = false := by simpa using h0
    have HC : Hid (cmpLab (a, b) (c, d) = cmpB a c) := by simp [Hid, cmpLab, hz]
    have hne : (cmpB a c != 0) = true := by simpa using h0
    go_enter Tryd.func67, Tryd.ntmps67
    go_wp2_with fail
    refine (names59 a b c d _).mono ?_
    rintro e w' ⟨rfl, rfl⟩
    go_wp2
    go_ret
    exact ⟨ret_int HC.out.symm, (below_two _ _ _).trans ((below_two _ _ _).mono (by simp; omega))⟩

set_option maxHeartbeats 2000000 in
set_option maxRecDepth 100000 in
theorem cmpf66 (ao bo : Option Addr) (c d : Nat) (a b : List Lab) (hn : a.length ≤ 1048576) (hm : b.length ≤ 1048576) (w : World) (h : LRow w w.heap.size ao a) (h2 : LRow w w.heap.size bo b) :
    Calls Tryd.prog 66 #[.slice ao a.length c, .slice bo b.length d, .func (.func 67) #[] #[]] w fun e w' => e = .returned (.int .i64 (cmpLs a b)) ∧ Below w.heap.size w w' := by
  have H := Lib.hid h
  have H2 := Lib.hid h2
  clear h h2
  go_enter Tryd.func66, Tryd.ntmps66
  go_wp2
  go_loopw [13] (fun i wr => ∃ k : Nat, k ≤ a.length ∧ k ≤ b.length ∧ i = .int .i64 k ∧ Hid (cmpLs a b = cmpLs (a.drop k) (b.drop k)) ∧ Hid (Below w.heap.size w wr)) (fun i _ => a.length - (intOf i).toNat)
  case atStart => exact ⟨0, Nat.zero_le _, Nat.zero_le _, rfl, rfl, Below.refl _ _⟩
  case round =>
    obtain ⟨k, hk, hk2, rfl, hG, hb⟩ := hrel
    by_cases hlt : k < a.length
    · obtain ⟨g, off, hao, hbl, hc⟩ := H.out (by omega)
      subst hao
      have c0 := (hb.out.cell (p := ⟨g, off + k * 2, none⟩) hbl).trans (hc k hlt).1
      have c1 := (hb.out.cell (p := ⟨g, off + k * 2 + 1, none⟩) hbl).trans (hc k hlt).2
      clear hc
      by_cases hlb : k < b.length
      · obtain ⟨g', off', hbo, hbl', hc'⟩ := H2.out (by omega)
        subst hbo
        have d0 := (hb.out.cell (p := ⟨g', off' + k * 2, none⟩) hbl').trans (hc' k hlb).1
        have d1 := (hb.out.cell (p := ⟨g', off' + k * 2 + 1, none⟩) hbl').trans (hc' k hlb).2
        have hg' : g' < wr.heap.size := Nat.lt_of_lt_of_le hbl' hb.out.size
        have HS := Lib.hid (fun h => hG.out.trans (cmpLs_step hlt hlb h))
        have HT := Lib.hid (fun h => hG.out.trans (cmpLs_stop hlt hlb h))
        clear hc'
        generalize a[k] = x at c0 c1 HS HT
        generalize b[k] = y at d0 d1 HS HT
        obtain ⟨x1, x2⟩ := x
        obtain ⟨y1, y2⟩ := y
        have HBx := Lib.hid (hb.out.trans ((below_two wr (.cells #[.string x1, .string x2] 31) (.cells #[.string y1, .string y2] 31)).mono hb.out.size))
        go_wp2_with fail
        refine (lab67 x1 x2 y1 y2 _).mono ?_
        rintro e w1 ⟨rfl, hb1⟩
        have HB1 := Lib.hid (HBx.out.trans (hb1.mono HBx.out.size))
        clear hb1
        by_cases hz : cmpLab (x1, x2) (y1, y2) = 0
        · have HE := Lib.hid (HS.out hz)
          have hz' : (cmpLab (x1, x2) (y1, y2) != 0) = false := by simpa using hz
          clear hz
          go_wp2
          go_roundw
          case rel => exact ⟨k + 1, by omega, by omega, by go_num, HE, HB1⟩
          case measure => simp [intOf]; omega
        · have HE := Lib.hid (HT.out hz)
          have hz' : (cmpLab (x1, x2) (y1, y2) != 0) = true := by simpa using hz
          clear hz
          go_wp2
          go_ret
          exact ⟨ret_int HE.out.symm, HB1.out⟩
      · have HE := Lib.hid (hG.out.trans (cmpLs_long hlt (by omega)))
        go_wp2
        go_ret
        exact ⟨ret_int HE.out.symm, hb.out.alloc hb.out.size _⟩
    · by_cases hlb : a.length < b.length
      · have HE := Lib.hid (hG.out.trans (cmpLs_short (by omega) (by omega)))
        go_wp2
        go_ret
        exact ⟨ret_int HE.out.symm, hb.out⟩
      · have HE := Lib.hid (hG.out.trans (cmpLs_same (by omega) (by omega)))
        go_wp2
        go_ret
        exact ⟨ret_int HE.out.symm, hb.out⟩

def okC (a b : List Lab) : Bool := goodB a && goodB b
def resC (a b : List Lab) : Int := bif okC a b then cmpLs a b else 0
theorem ret_intb {a b : Int} {c d : Bool} (h : a = b) (h' : c = d) : Ending.returned (.tuple #[.int .i64 a, .bool c]) = .returned (.tuple #[.int .i64 b, .bool d]) := by rw [h, h']

theorem comp22 (ao bo : Option Addr) (c d : Nat) (a b : List Lab) (hn : a.length ≤ 1048576) (hm : b.length ≤ 1048576) (w : World) (hT : Tabs w) (h : LRow w w.heap.size ao a) (h2 : LRow w w.heap.size bo b) :
    Calls Tryd.prog 22 #[.slice ao a.length c, .slice bo b.length d] w fun e w' => e = .returned (.tuple #[.int .i64 (resC a b), .bool (okC a b)]) ∧ Below w.heap.size w w' := by
  have H := Lib.hid h
  have H2 := Lib.hid h2
  clear h h2
  go_enter Tryd.func22, Tryd.ntmps22
  go_wp2_with fail
  refine (good19 ao c a hn _ hT H.out).mono ?_
  rintro e w1 ⟨rfl, hb⟩
  have HB := Lib.hid hb
  clear hb
  by_cases hg : goodB a = true
  case neg =>
    have hg : goodB a = false := by simpa using hg
    have HO : Hid (okC a b = false) := by simp [Hid, okC, hg]
    have HR : Hid (resC a b = 0) := by unfold Hid resC; rw [HO.out]; rfl
    go_wp2
    go_ret2
    exact ⟨ret_intb HR.out.symm HO.out.symm, HB.out⟩
  go_wp2_with fail
  refine (good19 bo d b hm _ (hT.below' HB.out) (H2.out.after HB.out)).mono ?_
  rintro e w2 ⟨rfl, hb⟩
  replace HB := Lib.hid (HB.out.trans (hb.mono HB.out.size))
  clear hb
  by_cases hg2 : goodB b = true
  case neg =>
    have hg2 : goodB b = false := by simpa using hg2
    have HO : Hid (okC a b = false) := by simp [Hid, okC, hg2]
    have HR : Hid (resC a b = 0) := by unfold Hid resC; rw [HO.out]; rfl
    go_wp2
    go_ret2
    exact ⟨ret_intb HR.out.symm HO.out.symm, HB.out⟩
  have HO : Hid (okC a b = true) := by simp [Hid, okC, hg, hg2]
  have HR : Hid (resC a b = cmpLs a b) := by unfold Hid resC; rw [HO.out]; rfl
  go_wp2_with fail
  refine (cmpf66 ao bo c d a b hn hm _ (H.out.after HB.out) (H2.out.after HB.out)).mono ?_
  rintro e w3 ⟨rfl, hb⟩
  replace HB := Lib.hid (HB.out.trans (hb.mono HB.out.size))
  clear hb
  go_wp2
  go_ret2
  exact ⟨ret_intb HR.out.symm HO.out.symm, HB.out⟩
end Go.Proofs.YtoelcbfbpijfcaaDoor
