/- Contracts of labels without some names, in the program and in the model, over this seat's translation: both sides answer the same labels in new memory. -/
import Derived.Test.YtpbcgfgjdimpmaaDoorTexts
import Derived.Test.YtpbcgfgjdimpmaaDoorGoodm
namespace Go.Proofs.YtpbcgfgjdimpmaaDoor
open Go.RowKit Go.Deep Go.WideShapes

/-- Whether a text is among some. -/
def hasT (l : List ByteArray) (n : ByteArray) : Bool := l.any fun x => n.toList == x.toList
theorem hasT_of {l : List ByteArray} {n : ByteArray} {k : Nat} (hk : k < l.length) (h : (n.toList == l[k].toList) = true) : hasT l n = true := by
  unfold hasT
  rw [List.any_eq_true]
  exact ⟨_, List.getElem_mem hk, h⟩
theorem hasT_step {l : List ByteArray} {n : ByteArray} {k : Nat} (hk : k < l.length) : hasT (l.take (k + 1)) n = (hasT (l.take k) n || (n.toList == l[k].toList)) := by
  unfold hasT
  rw [List.take_succ_eq_append_getElem hk, List.any_append]
  simp
def without (l : List Lab) (names : List ByteArray) : List Lab := l.filter fun x => !hasT names x.1
theorem without_keep {l : List Lab} {names : List ByteArray} {k : Nat} (hk : k < l.length) (h : hasT names l[k].1 = false) : without (l.take (k + 1)) names = without (l.take k) names ++ [l[k]] := by
  unfold without
  rw [List.take_succ_eq_append_getElem hk, List.filter_append]
  simp [h]
theorem without_drop {l : List Lab} {names : List ByteArray} {k : Nat} (hk : k < l.length) (h : hasT names l[k].1 = true) : without (l.take (k + 1)) names = without (l.take k) names := by
  unfold without
  rw [List.take_succ_eq_append_getElem hk, List.filter_append]
  simp [h]
theorem without_le (l : List Lab) (names : List ByteArray) : (without l names).length ≤ l.length := List.length_filter_le _ _
def okW (l : List Lab) (names : List ByteArray) : Bool := goodB l && decide (names.length ≤ 20)
def resW (l : List Lab) (names : List ByteArray) : List Lab := bif okW l names then without l names else []

set_option maxHeartbeats 1000000 in
theorem index100 (ao : Option Addr) (cap : Nat) (l : List ByteArray) (hn : l.length ≤ 1048576) (n : ByteArray) (w : World) (h : TRow w w.heap.size ao l) :
    Calls Tryd.prog 109 #[.slice ao l.length cap, .string n] w fun e w' => (∃ i : Int, e = .returned (.int .i64 i) ∧ decide (0 ≤ i) = hasT l n) ∧ w = w' := by
  have H := Lib.hid h
  clear h
  go_enter Tryd.func109, Tryd.ntmps109
  go_wp2
  go_loop [8] (fun i => ∃ k : Nat, k ≤ l.length ∧ i = .int .i64 k ∧ Hid (hasT (l.take k) n = false)) (fun i => l.length - (intOf i).toNat)
  case atStart => exact ⟨0, Nat.zero_le _, rfl, rfl⟩
  case round =>
    obtain ⟨k, hk, rfl, hG⟩ := hrel
    by_cases hlt : k < l.length
    · obtain ⟨b, off, hao, hbl, hc⟩ := H.out (by omega)
      subst hao
      have c0 := hc k hlt
      have HS := Lib.hid (hasT_step (n := n) hlt)
      have HH := Lib.hid (fun h => hasT_of (n := n) hlt h)
      clear hc
      generalize l[k] = x at c0 HS HH
      by_cases he : (n.toList == x.toList) = true
      · have HE := Lib.hid (HH.out he)
        go_wp2
        go_ret
        exact ⟨⟨_, rfl, by rw [HE.out]; simp⟩, rfl⟩
      · have he : (n.toList == x.toList) = false := by simpa using he
        have HE : Hid (hasT (l.take (k + 1)) n = false) := by rw [HS.out, hG.out, he]; rfl
        go_wp2
        go_round
        case rel => exact ⟨k + 1, by omega, by go_num, HE⟩
        case measure => simp [intOf]; omega
    · obtain rfl : k = l.length := by omega
      go_wp2
      go_ret
      exact ⟨⟨_, rfl, by have := hG.out; rw [List.take_length] at this; rw [this]; simp⟩, rfl⟩

theorem has82 (ao : Option Addr) (cap : Nat) (l : List ByteArray) (hn : l.length ≤ 1048576) (n : ByteArray) (w : World) (h : TRow w w.heap.size ao l) :
    Calls Tryd.prog 78 #[.slice ao l.length cap, .string n] w fun e w' => e = .returned (.bool (hasT l n)) ∧ w = w' := by
  have H := Lib.hid h
  clear h
  go_enter Tryd.func78, Tryd.ntmps78
  go_wp2_with fail
  refine (index100 ao cap l hn n w H.out).mono ?_
  rintro e w1 ⟨⟨i, rfl, hi⟩, rfl⟩
  have HI := Lib.hid hi
  clear hi
  go_wp2
  go_ret
  exact ⟨ret_bool HI.out, rfl⟩

/-- What labels without some names come to. -/
def Kept (l : List Lab) (names : List ByteArray) (w : World) (e : Ending) (w' : World) : Prop :=
  ∃ v, e = .returned (.tuple #[v, .bool (okW l names)]) ∧ w'.ownsRow w.heap.size 82 2 v (resW l names).length (cellsOf (resW l names)) ∧ Below w.heap.size w w'

theorem kept_no {l : List Lab} {names : List ByteArray} {w w' : World} (h : okW l names = false) (hb : Below w.heap.size w w') : Kept l names w (.returned (.tuple #[.slice none 0 0, .bool false])) w' :=
  ⟨_, by rw [h], by simp [resW, h, cellsOf, World.ownsRow], hb⟩
theorem kept_yes {l : List Lab} {names : List ByteArray} {w w' : World} {v : Value} (h : okW l names = true) (ho : w'.ownsRow w.heap.size 82 2 v (without l names).length (cellsOf (without l names))) (hb : Below w.heap.size w w') : Kept l names w (.returned (.tuple #[v, .bool true])) w' :=
  ⟨_, by rw [h], by simpa [resW, h] using ho, hb⟩

/-- Behind the append of one label. -/
theorem kept_append {w w2 w3 : World} {v v' : Value} {ls : List Lab} {x1 x2 : ByteArray} {o : Obj} (hb : Below w.heap.size w w2)
    (hown : w2.ownsRow w.heap.size 82 2 v ls.length (cellsOf ls)) (hown' : w3.ownsRow w.heap.size 82 2 v' (ls.length + 1) (cellsOf ls ++ [.string x1, .string x2])) (hg : (w2.alloc o).grownBy w3 v.ownBlock) :
    w3.ownsRow w.heap.size 82 2 v' (ls ++ [(x1, x2)]).length (cellsOf (ls ++ [(x1, x2)])) ∧ Below w.heap.size w w3 := by
  refine ⟨by rw [cellsOf_append, List.length_append]; exact hown', ?_⟩
  have hb1 := hb.alloc hb.size o
  exact hb1.grown hg hb1.size (fun k hk => (hown.lt k hk).1)

theorem new_pair {w : World} {a b : Value} {t : TypeId} : ∀ (j : Nat) u, [a, b][j]? = some u → (w.alloc (.cells #[a, b] t)).cell? ((⟨w.heap.size, 0, none⟩ : Addr).add j) = some u := by
  intro j u hj
  match j, hj with
  | 0, hj => simp at hj; subst hj; simp [Addr.add]
  | 1, hj => simp at hj; subst hj; simp [Addr.add]

theorem pair_one {x1 x2 : ByteArray} : ∀ u ∈ [Value.string x1, Value.string x2], u.oneCell' = true := by
  intro u hu; simp at hu; rcases hu with rfl | rfl <;> rfl

set_option maxHeartbeats 2000000 in
set_option maxRecDepth 100000 in
theorem without40 (ao bo : Option Addr) (c d : Nat) (l : List Lab) (names : List ByteArray) (hn : l.length ≤ 1048576) (hm : names.length ≤ 1048576) (w : World) (hT : Tabs w) (h : LRow w w.heap.size ao l) (h2 : TRow w w.heap.size bo names) :
    Calls Tryd.prog 28 #[.slice ao l.length c, .slice bo names.length d] w (Kept l names w) := by
  have H := Lib.hid h
  have H2 := Lib.hid h2
  clear h h2
  obtain ⟨i0, hi0, hz0, hz1, hz2⟩ := info_parts Tryd.info82
  go_enter Tryd.func28, Tryd.ntmps28
  go_wp2_with fail
  refine (good19 ao c l hn _ hT H.out).mono ?_
  rintro e w1 ⟨rfl, hb⟩
  have HB := Lib.hid hb
  clear hb
  by_cases hg : goodB l = true
  case neg =>
    have hg : goodB l = false := by simpa using hg
    have HK := Lib.hid (kept_no (l := l) (names := names) (by simp [okW, hg]) HB.out)
    go_wp2
    go_ret2
    exact HK.out
  by_cases h20 : names.length ≤ 20
  case neg =>
    have HK := Lib.hid (kept_no (l := l) (names := names) (by simp [okW, h20]) HB.out)
    have hd : decide (20 < (names.length : Int)) = true := by simp; omega
    go_wp2
    go_ret2
    exact HK.out
  have hd : decide (20 < (names.length : Int)) = false := by simp; omega
  have HOK := Lib.hid (show okW l names = true by simp [okW, hg, h20])
  go_wp2
  clear hg
  go_loopw [6, 19] (fun v i wr => ∃ k : Nat, k ≤ l.length ∧ i = .int .i64 k ∧ Hid (wr.ownsRow w.heap.size 82 2 v (without (l.take k) names).length (cellsOf (without (l.take k) names))) ∧ Hid (Below w.heap.size w wr)) (fun _ i _ => l.length - (intOf i).toNat)
  case atStart => exact ⟨0, Nat.zero_le _, rfl, World.ownsRow_nil _ _ _ _, HB⟩
  case round =>
    obtain ⟨k, hk, rfl, hO, hb⟩ := hrel
    by_cases hlt : k < l.length
    · obtain ⟨b, off, hao, hbl, hc⟩ := H.out (by omega)
      subst hao
      have c0 := (hb.out.cell (p := ⟨b, off + k * 2, none⟩) hbl).trans (hc k hlt).1
      have c1 := (hb.out.cell (p := ⟨b, off + k * 2 + 1, none⟩) hbl).trans (hc k hlt).2
      have HB1 := Lib.hid (hb.out.alloc (hb.out.size) (.cells #[.string l[k].1, .string l[k].2] 82))
      have HO1 := Lib.hid (hO.out.alloc (.cells #[.string l[k].1, .string l[k].2] 82))
      have HKe := Lib.hid (fun h => without_keep (names := names) hlt h)
      have HDr := Lib.hid (fun h => without_drop (names := names) hlt h)
      have hle : (without (l.take k) names).length ≤ 1048576 := Nat.le_trans (without_le _ _) (by simp; omega)
      clear hc
      generalize l[k] = x at c0 c1 HB1 HO1 HKe HDr
      obtain ⟨x1, x2⟩ := x
      go_wp2_with fail
      refine (has82 bo d names hm x1 _ (H2.out.after HB1.out)).mono ?_
      rintro e w2 ⟨rfl, rfl⟩
      obtain ⟨k3, k4⟩ := box_cells (wr := wr) (x1 := x1) (x2 := x2) (t := 82) (Below.refl _ _)
      generalize hw2 : wr.alloc (.cells #[.string x1, .string x2] 82) = w2 at HB1 HO1 k3 k4 ⊢
      clear hw2
      by_cases hh : hasT names x1 = true
      · have HE := Lib.hid (HDr.out hh)
        go_wp2
        go_roundw
        case rel => exact ⟨k + 1, by omega, by go_num, by rw [HE.out]; exact HO1.out, HB1⟩
        case measure => simp [intOf]; omega
      · have hh : hasT names x1 = false := by simpa using hh
        have HE := Lib.hid (HKe.out hh)
        go_wp2_with (at_builtin; refine wpList_append_own _ rfl (.tmp 28) (.tmp 30) 24 rfl w.heap.size 82 i0 _ 2 32 Tryd.underlying24 hi0 hz0 hz1 hz2 rfl (by decide) _ _ _ rfl (HO1.out.alloc _) ⟨w2.heap.size, 0, none⟩ 1 1 [.string x1, .string x2] rfl rfl new_pair pair_one ?c3 ?c4 ?c5 ?_)
        case c3 => unfold maxLen; omega
        case c4 => omega
        case c5 => have := HB1.out.size; simp; omega
        intro v' w3 hown' hgrow _
        have HR := Lib.hid (kept_append HB1.out HO1.out hown' hgrow)
        clear hown' hgrow
        go_wp2
        go_roundw
        case rel => exact ⟨k + 1, by omega, by go_num, by rw [HE.out]; exact HR.out.1, HR.out.2⟩
        case measure => simp [intOf]; omega
    · obtain rfl : k = l.length := by omega
      have HK := Lib.hid (fun v (h : wr.ownsRow w.heap.size 82 2 v (without l names).length (cellsOf (without l names))) => kept_yes HOK.out h hb.out)
      rw [List.take_length] at hO
      go_wp2
      go_ret2
      exact HK.out _ hO.out
end Go.Proofs.YtpbcgfgjdimpmaaDoor
