/- Contracts of what a name is among labels, in the program and in the model, over this seat's translation: both sides answer the same text. -/
import Derived.Test.YtpbcgfgjdimpmaaDoorGoodm
import Derived.Test.YtpbcgfgjdimpmaaDoorEq
namespace Go.Proofs.YtpbcgfgjdimpmaaDoor
open Go.RowKit Go.Deep

def emp : ByteArray := ⟨#[]⟩
/-- The Is of a Name, the empty text where it is not there. -/
def isL : List Lab → ByteArray → ByteArray
  | [], _ => emp
  | x :: l, n => bif x.1.toList == n.toList then x.2 else isL l n
theorem isL_step {l : List Lab} {n : ByteArray} {k : Nat} (hk : k < l.length) (h : (l[k].1.toList == n.toList) = false) : isL (l.drop k) n = isL (l.drop (k + 1)) n := by
  rw [List.drop_eq_getElem_cons hk, isL, h]; rfl
theorem isL_hit {l : List Lab} {n : ByteArray} {k : Nat} (hk : k < l.length) (h : (l[k].1.toList == n.toList) = true) : isL (l.drop k) n = l[k].2 := by
  rw [List.drop_eq_getElem_cons hk, isL, h]; rfl
def isF (l : List Lab) (n : ByteArray) : ByteArray := bif goodB l then isL l n else emp

theorem ret_str {a b : ByteArray} (h : a = b) : Ending.returned (.string a) = .returned (.string b) := by rw [h]
theorem ret_strb {a b : ByteArray} {c d : Bool} (h : a = b) (h' : c = d) : Ending.returned (.tuple #[.string a, .bool c]) = .returned (.tuple #[.string b, .bool d]) := by rw [h, h']

set_option maxHeartbeats 2000000 in
set_option maxRecDepth 100000 in
theorem is81 (ao : Option Addr) (cap : Nat) (l : List Lab) (hn : l.length ≤ 1048576) (n : ByteArray) (w : World) (h : LRow w w.heap.size ao l) :
    Calls Tryd.prog 75 #[.slice ao l.length cap, .string n] w fun e w' => e = .returned (.string (isL l n)) ∧ Below w.heap.size w w' := by
  have H := Lib.hid h
  clear h
  go_enter Tryd.func75, Tryd.ntmps75
  go_wp2
  go_loopw [9] (fun i wr => ∃ k : Nat, k ≤ l.length ∧ i = .int .i64 k ∧ Hid (isL l n = isL (l.drop k) n) ∧ Hid (Below w.heap.size w wr)) (fun i _ => l.length - (intOf i).toNat)
  case atStart => exact ⟨0, Nat.zero_le _, rfl, rfl, Below.refl _ _⟩
  case round =>
    obtain ⟨k, hk, rfl, hG, hb⟩ := hrel
    by_cases hlt : k < l.length
    · obtain ⟨b, off, hao, hbl, hc⟩ := H.out (by omega)
      subst hao
      have c0 := (hb.out.cell (p := ⟨b, off + k * 2, none⟩) hbl).trans (hc k hlt).1
      have c1 := (hb.out.cell (p := ⟨b, off + k * 2 + 1, none⟩) hbl).trans (hc k hlt).2
      have HB1 := Lib.hid (hb.out.alloc (hb.out.size) (.cells #[.string l[k].1, .string l[k].2] 82))
      have HS := Lib.hid (fun h => hG.out.trans (isL_step (n := n) hlt h))
      have HH := Lib.hid (fun h => hG.out.trans (isL_hit (n := n) hlt h))
      clear hc
      generalize l[k] = x at c0 c1 HB1 HS HH
      obtain ⟨x1, x2⟩ := x
      by_cases he : (x1.toList == n.toList) = true
      · have HE := Lib.hid (HH.out he)
        go_wp2
        go_ret
        exact ⟨ret_str HE.out.symm, HB1.out⟩
      · have he : (x1.toList == n.toList) = false := by simpa using he
        have HE := Lib.hid (HS.out he)
        go_wp2
        go_roundw
        case rel => exact ⟨k + 1, by omega, by go_num, HE, HB1⟩
        case measure => simp [intOf]; omega
    · obtain rfl : k = l.length := by omega
      go_wp2
      go_ret
      exact ⟨ret_str (by rw [hG.out]; simp [isL, emp]), hb.out⟩

theorem isF_no {l : List Lab} {n : ByteArray} (h : goodB l = false) : isF l n = emp := by simp [isF, h]
theorem isF_yes {l : List Lab} {n : ByteArray} (h : goodB l = true) : isF l n = isL l n := by simp [isF, h]

theorem is38 (ao : Option Addr) (cap : Nat) (l : List Lab) (hF : Fit l) (n : ByteArray) (w : World) (h : LRow w w.heap.size ao l) :
    Calls Tryd.prog 26 #[.slice ao l.length cap, .string n] w fun e w' => e = .returned (.tuple #[.string (isF l n), .bool (goodB l)]) ∧ Below w.heap.size w w' := by
  have H := Lib.hid h
  clear h
  go_enter Tryd.func26, Tryd.ntmps26
  go_wp2_with fail
  refine (good68 ao cap l hF _ H.out).mono ?_
  rintro e w1 ⟨rfl, hb⟩
  have HB := Lib.hid hb
  clear hb
  by_cases hg : goodB l = true
  case neg =>
    have hg : goodB l = false := by simpa using hg
    have HI := Lib.hid (isF_no (n := n) hg)
    have HG := Lib.hid hg
    go_wp2
    go_ret2
    exact ⟨ret_strb HI.out.symm HG.out.symm, HB.out⟩
  have HI := Lib.hid (isF_yes (n := n) hg)
  have HG := Lib.hid hg
  go_wp2_with fail
  refine (is81 ao cap l hF.1 n _ (H.out.after HB.out)).mono ?_
  rintro e w2 ⟨rfl, hb2⟩
  have HB2 := Lib.hid (HB.out.trans (hb2.mono HB.out.size))
  clear hb2
  go_wp2
  go_ret2
  exact ⟨ret_strb HI.out.symm HG.out.symm, HB2.out⟩

set_option maxHeartbeats 2000000 in
set_option maxRecDepth 100000 in
theorem is20 (ao : Option Addr) (cap : Nat) (l : List Lab) (hn : l.length ≤ 1048576) (n : ByteArray) (w : World) (hT : Tabs w) (h : LRow w w.heap.size ao l) :
    Calls Tryd.prog 25 #[.slice ao l.length cap, .string n] w fun e w' => e = .returned (.tuple #[.string (isF l n), .bool (goodB l)]) ∧ Below w.heap.size w w' := by
  have H := Lib.hid h
  clear h
  go_enter Tryd.func25, Tryd.ntmps25
  go_wp2_with fail
  refine (good19 ao cap l hn _ hT H.out).mono ?_
  rintro e w1 ⟨rfl, hb⟩
  have HB := Lib.hid hb
  clear hb
  by_cases hg : goodB l = true
  case neg =>
    have hg : goodB l = false := by simpa using hg
    have HI := Lib.hid (isF_no (n := n) hg)
    have HG := Lib.hid hg
    go_wp2
    go_ret2
    exact ⟨ret_strb HI.out.symm HG.out.symm, HB.out⟩
  have HI := Lib.hid (isF_yes (n := n) hg)
  have HG := Lib.hid hg
  go_wp2
  clear hg
  go_loopw [13] (fun i wr => ∃ k : Nat, k ≤ l.length ∧ i = .int .i64 k ∧ Hid (isL l n = isL (l.drop k) n) ∧ Hid (Below w.heap.size w wr)) (fun i _ => l.length - (intOf i).toNat)
  case atStart => exact ⟨0, Nat.zero_le _, rfl, rfl, HB⟩
  case round =>
    obtain ⟨k, hk, rfl, hG, hb⟩ := hrel
    by_cases hlt : k < l.length
    · obtain ⟨b, off, hao, hbl, hc⟩ := H.out (by omega)
      subst hao
      have c0 := (hb.out.cell (p := ⟨b, off + k * 2, none⟩) hbl).trans (hc k hlt).1
      have c1 := (hb.out.cell (p := ⟨b, off + k * 2 + 1, none⟩) hbl).trans (hc k hlt).2
      have HB1 := Lib.hid (hb.out.alloc (hb.out.size) (.cells #[.string l[k].1, .string l[k].2] 82))
      have HS := Lib.hid (fun h => hG.out.trans (isL_step (n := n) hlt h))
      have HH := Lib.hid (fun h => hG.out.trans (isL_hit (n := n) hlt h))
      clear hc
      generalize l[k] = x at c0 c1 HB1 HS HH
      obtain ⟨x1, x2⟩ := x
      by_cases he : (x1.toList == n.toList) = true
      · have HE := Lib.hid (HH.out he)
        go_wp2
        go_ret2
        exact ⟨ret_strb (by rw [HI.out]; exact HE.out.symm) HG.out.symm, HB1.out⟩
      · have he : (x1.toList == n.toList) = false := by simpa using he
        have HE := Lib.hid (HS.out he)
        go_wp2
        go_roundw
        case rel => exact ⟨k + 1, by omega, by go_num, HE, HB1⟩
        case measure => simp [intOf]; omega
    · obtain rfl : k = l.length := by omega
      go_wp2
      go_ret2
      exact ⟨ret_strb (by rw [HI.out, hG.out]; simp [isL, emp]) HG.out.symm, hb.out⟩
end Go.Proofs.YtpbcgfgjdimpmaaDoor
