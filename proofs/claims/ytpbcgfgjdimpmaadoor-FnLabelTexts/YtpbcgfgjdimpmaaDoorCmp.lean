/- Contracts of the comparison of labels, in the program and in the model, over this seat's translation: both sides answer cmpLs. -/
import Derived.Test.YtpbcgfgjdimpmaaDoorGoodm
import Derived.Lib.Bytealg
import Derived.Laws.Externs
import Derived.Laws.StructEq
import Derived.Deep.RegionHeld3
namespace Go.Proofs.YtpbcgfgjdimpmaaDoor
open Go.RowKit Go.Deep

def cmpB (a b : ByteArray) : Int := Lib.compareBytes a.data.toList b.data.toList

theorem cmp_less : ∀ (a b : List UInt8), Lib.compareBytes a b = bif Op.bytesLess a b then -1 else bif a == b then 0 else 1
  | [], [] => rfl
  | [], _ :: _ => rfl
  | _ :: _, [] => rfl
  | x :: a, y :: b => by
    have ih := cmp_less a b
    unfold Lib.compareBytes Op.bytesLess
    by_cases h1 : x < y
    · simp [h1]
    · by_cases h2 : y < x
      · have hne : x ≠ y := by rintro rfl; exact h1 h2
        have hb : (x == y) = false := by simpa using hne
        simp [h1, h2, hb, List.cons_beq_cons]
      · have he : x = y := UInt8.le_antisymm (UInt8.not_lt.1 h2) (UInt8.not_lt.1 h1)
        subst he
        simp only [h1, if_false, ih]
        simp [List.cons_beq_cons]

theorem cmpB_eq (a b : ByteArray) : cmpB a b = bif less a b then -1 else bif a.toList == b.toList then 0 else 1 := by
  unfold cmpB less
  rw [cmp_less, Lib.toList_data, Lib.toList_data]
theorem less_irrefl' {a b : ByteArray} (h : (a.toList == b.toList) = true) : less a b = false := by
  have e : a.toList = b.toList := by simpa using h
  unfold less
  rw [e, Proofs.bytesLess_eq]
  simp
/-- Label by label: Name first, then Is. -/
def cmpLab (x y : Lab) : Int := bif cmpB x.1 y.1 == 0 then cmpB x.2 y.2 else cmpB x.1 y.1
def cmpLs : List Lab → List Lab → Int
  | [], [] => 0
  | [], _ :: _ => -1
  | _ :: _, [] => 1
  | x :: a, y :: b => bif cmpLab x y == 0 then cmpLs a b else cmpLab x y

theorem cmpB_range (a b : ByteArray) : -1 ≤ cmpB a b ∧ cmpB a b ≤ 1 := by
  rw [cmpB_eq]
  cases less a b <;> cases (a.toList == b.toList) <;> simp
theorem cmpLab_range (x y : Lab) : -1 ≤ cmpLab x y ∧ cmpLab x y ≤ 1 := by
  unfold cmpLab
  have h1 := cmpB_range x.1 y.1
  have h2 := cmpB_range x.2 y.2
  cases (cmpB x.1 y.1 == 0) <;> simpa using by assumption

theorem cmpLs_step {a b : List Lab} {k : Nat} (ha : k < a.length) (hb : k < b.length) (h : cmpLab a[k] b[k] = 0) : cmpLs (a.drop k) (b.drop k) = cmpLs (a.drop (k + 1)) (b.drop (k + 1)) := by
  rw [List.drop_eq_getElem_cons ha, List.drop_eq_getElem_cons hb, cmpLs, h]; rfl
theorem cmpLs_stop {a b : List Lab} {k : Nat} (ha : k < a.length) (hb : k < b.length) (h : cmpLab a[k] b[k] ≠ 0) : cmpLs (a.drop k) (b.drop k) = cmpLab a[k] b[k] := by
  rw [List.drop_eq_getElem_cons ha, List.drop_eq_getElem_cons hb, cmpLs]
  have : (cmpLab a[k] b[k] == 0) = false := by simpa using h
  rw [this]; rfl
theorem cmpLs_long {a b : List Lab} {k : Nat} (ha : k < a.length) (hb : b.length ≤ k) : cmpLs (a.drop k) (b.drop k) = 1 := by
  rw [List.drop_eq_getElem_cons ha, List.drop_eq_nil_of_le hb]; rfl
theorem cmpLs_short {a b : List Lab} {k : Nat} (ha : a.length ≤ k) (hb : k < b.length) : cmpLs (a.drop k) (b.drop k) = -1 := by
  rw [List.drop_eq_nil_of_le ha, List.drop_eq_getElem_cons hb]; rfl
theorem cmpLs_same {a b : List Lab} {k : Nat} (ha : a.length ≤ k) (hb : b.length ≤ k) : cmpLs (a.drop k) (b.drop k) = 0 := by
  rw [List.drop_eq_nil_of_le ha, List.drop_eq_nil_of_le hb]; rfl

theorem below_two (w : World) (o o' : Obj) : Below w.heap.size w ((w.alloc o).alloc o') := ((Below.refl _ _).alloc (Nat.le_refl _) _).alloc (by simp) _
def okC (a b : List Lab) : Bool := goodB a && goodB b
def resC (a b : List Lab) : Int := bif okC a b then cmpLs a b else 0
theorem ret_intb {a b : Int} {c d : Bool} (h : a = b) (h' : c = d) : Ending.returned (.tuple #[.int .i64 a, .bool c]) = .returned (.tuple #[.int .i64 b, .bool d]) := by rw [h, h']
end Go.Proofs.YtpbcgfgjdimpmaaDoor
