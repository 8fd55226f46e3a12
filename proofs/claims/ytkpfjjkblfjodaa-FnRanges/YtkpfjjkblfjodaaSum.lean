/- Plain facts on sums of float64 in the model: which bits are a NaN, that a sum that is one stays one, and the sum of a list. Nothing of the program stands here. -/
import Derived.Test.YtkpfjjkblfjodaaFloat
namespace Go.Proofs.Ytkpfjjkblfjodaa
open Ieee

theorem read_eq (b : Nat) : double.read b =
    if b % 9223372036854775808 < 4503599627370496 then .number (b / 9223372036854775808 % 2 == 1) (b % 9223372036854775808) (-1074)
    else if b % 9223372036854775808 < 9218868437227405312 then .number (b / 9223372036854775808 % 2 == 1) (4503599627370496 + b % 9223372036854775808 % 4503599627370496) (-1074 + (b % 9223372036854775808 / 4503599627370496 - 1 : Nat))
    else if b % 9223372036854775808 = 9218868437227405312 then .infinity (b / 9223372036854775808 % 2 == 1)
    else .nan (b / 9223372036854775808 % 2 == 1) (b % 9223372036854775808 - 9218868437227405312) := by
  unfold Format.read
  simp only [show double.signWeight = 9223372036854775808 from by decide +kernel, show double.binade = 4503599627370496 from by decide +kernel, show double.infRung = 9218868437227405312 from by decide +kernel, show double.leastPlace = -1074 from by decide +kernel]

theorem read_nan {b : Nat} (h : isNan b = true) : ∃ s f, double.read b = .nan s f := by
  have h' : 9218868437227405312 < b % 9223372036854775808 := by simpa [isNan] using h
  rw [read_eq, if_neg (by omega), if_neg (by omega), if_neg (by omega)]
  exact ⟨_, _, rfl⟩

theorem read_plain {b : Nat} (h : isNan b = false) : (∃ s m i, double.read b = .number s m i) ∨ ∃ s, double.read b = .infinity s := by
  have h' : ¬ 9218868437227405312 < b % 9223372036854775808 := by simpa [isNan] using h
  rw [read_eq]
  split
  · exact .inl ⟨_, _, _, rfl⟩
  · split
    · exact .inl ⟨_, _, _, rfl⟩
    · rw [if_pos (by omega)]
      exact .inr ⟨_, rfl⟩

theorem isNan_word (s : Bool) (r : Nat) (h : r ≤ 9218868437227405312) : isNan (double.word s r) = false := by
  unfold Format.word isNan
  simp only [show double.signWeight = 9223372036854775808 from by decide +kernel]
  cases s <;> simp <;> omega

theorem isNan_nearest (s : Bool) (m : Nat) (i : Int) : isNan (double.nearest s m i) = false := by
  unfold Format.nearest
  dsimp only
  split
  · exact isNan_word _ _ (by omega)
  · exact isNan_word _ _ (by rw [show double.infRung = 9218868437227405312 from by decide +kernel]; omega)

theorem isNan_inf (s : Bool) : isNan (double.write (.infinity s)) = false := isNan_word _ _ (by decide +kernel)

theorem add_nan_left {a : Nat} (x : Nat) (h : isNan a = true) : double.add a x = none := by
  obtain ⟨s, f, e⟩ := read_nan h
  simp [Format.add, e, Datum.sum]

theorem add_not_nan {a x r : Nat} (h : double.add a x = some r) : isNan r = false := by
  unfold Format.add at h
  cases ha : double.read a <;> cases hx : double.read x <;> rw [ha, hx] at h <;> simp only [Datum.sum, Option.map_some, Option.map_none, Option.some.injEq, reduceCtorEq] at h
  · subst h; exact isNan_nearest _ _ _
  · subst h; exact isNan_inf _
  · subst h; exact isNan_inf _
  · split at h
    · simp at h; subst h; exact isNan_inf _
    · simp at h

theorem add_lt64 {a x r : Nat} (h : double.add a x = some r) : r < 18446744073709551616 := double.add_lt h

/-- A sum so far: 'none': it is a NaN. -/
def accB (o : Option Nat) (x : Nat) : Option Nat := o.bind fun a => double.add a x
def sumB (xs : List Nat) : Option Nat := xs.foldl accB (some 0)
/-- The value that stands for a sum so far. -/
def Acc (o : Option Nat) (v : Nat) : Prop := v < 18446744073709551616 ∧ (∀ r, o = some r → v = r ∧ isNan v = false) ∧ (o = none → isNan v = true)
def cleanB (o : Option Nat) : Nat := o.getD 9221120237041090561

theorem acc_start : Acc (sumB []) 0 := ⟨by decide, fun r h => by simp [sumB] at h; subst h; exact ⟨rfl, by decide⟩, fun h => by simp [sumB] at h⟩

theorem sumB_snoc (xs : List Nat) (x : Nat) : sumB (xs ++ [x]) = accB (sumB xs) x := by simp [sumB]

/-- A sound addition. -/
theorem acc_some {o : Option Nat} {v x r : Nat} (h : Acc o v) (ha : double.add v x = some r) : Acc (accB o x) r := by
  refine ⟨add_lt64 ha, ?_, ?_⟩
  · intro q hq
    cases o with
    | none => simp [accB] at hq
    | some a =>
      have := (h.2.1 a rfl).1
      subst this
      simp [accB, ha] at hq
      exact ⟨hq, add_not_nan ha⟩
  · intro hn
    cases o with
    | none => rw [add_nan_left x (h.2.2 rfl)] at ha; cases ha
    | some a =>
      have := (h.2.1 a rfl).1
      subst this
      simp [accB, ha] at hn

theorem acc_none {o : Option Nat} {v x p : Nat} (h : Acc o v) (ha : double.add v x = none) (hp : isNan p = true) (hl : p < 18446744073709551616) : Acc (accB o x) p := by
  refine ⟨hl, ?_, fun _ => hp⟩
  intro q hq
  cases o with
  | none => simp [accB] at hq
  | some a =>
    have := (h.2.1 a rfl).1
    subst this
    simp [accB, ha] at hq

def nanClean (v : Nat) : Nat := if isNan v then 9221120237041090561 else v

theorem clean_acc {o : Option Nat} {v : Nat} (h : Acc o v) : nanClean v = cleanB o := by
  unfold nanClean cleanB
  cases o with
  | none => rw [h.2.2 rfl]; rfl
  | some a => obtain ⟨h1, h2⟩ := h.2.1 a rfl; rw [h2, h1]; rfl

/-- The NaN that the machine makes of two operands. -/
def nanPick (w : World) (x y : Nat) : Nat := Question.cut (.nanBits .f64 x y) (w.tape w.drawn (.nanBits .f64 x y))

theorem cut_nan (x y t : Nat) : isNan (Question.cut (.nanBits .f64 x y) t) = true ∧ Question.cut (.nanBits .f64 x y) t < 18446744073709551616 := by
  have e : Question.cut (.nanBits .f64 x y) t = (t % 2) * 9223372036854775808 + 9218868437227405312 + 1 + (t / 2) % 4503599627370495 := rfl
  have hz : t / 2 % 4503599627370495 < 4503599627370495 := Nat.mod_lt _ (by decide)
  rw [e]
  generalize t / 2 % 4503599627370495 = z at hz
  rcases Nat.mod_two_eq_zero_or_one t with h2 | h2
  all_goals
    rw [h2]
    constructor
    · unfold isNan; rw [decide_eq_true_eq]; omega
    · omega

theorem nanPick_nan (w : World) (x y : Nat) : isNan (nanPick w x y) = true := (cut_nan _ _ _).1
theorem nanPick_lt (w : World) (x y : Nat) : nanPick w x y < 18446744073709551616 := (cut_nan _ _ _).2

theorem run_add_some {P : Program} {x y r : Nat} (h : double.add x y = some r) (t : TypeId) (w : World) : (binOp .add t (.float .f64 x) (.float .f64 y)).run P w = .ok (.float .f64 r) w :=
  run_float_arith w .add t .f64 x y r h

theorem run_add_none {P : Program} {x y : Nat} (h : double.add x y = none) (t : TypeId) (w : World) : (binOp .add t (.float .f64 x) (.float .f64 y)).run P w = .ok (.float .f64 (nanPick w x y)) w.drew := by
  have h' : FloatKind.f64.format.add x y = none := h
  simp only [binOp, Op.floatArith, h']
  rfl

end Go.Proofs.Ytkpfjjkblfjodaa
