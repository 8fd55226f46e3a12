/- Contract of reading a matcher back in the model, over this seat's translation, and the walk of the law FnExactReadMatcher. -/
import Derived.Test.YtpbcgfgjdimpmaaDoorReadi
import Derived.Test.YtpbcgfgjdimpmaaDoorJc
import Derived.Deep.RegionHeld3
namespace Go.Proofs.YtpbcgfgjdimpmaaDoor
open Go.RowKit Go.Deep Go.WideShapes

theorem cut_cells {w : World} {base : Nat} {v : Value} {ps : List (List UInt8)} (h : w.ownsRow base 9 1 v ps.length (strs ps)) (hp : 0 < ps.length) : ∃ g c, v = .slice (some ⟨g, 0, none⟩) ps.length c ∧ g < w.heap.size ∧ ∀ (j : Nat) x, ps[j]? = some x → w.cell? ⟨g, j, none⟩ = some (.string ⟨x.toArray⟩) := by
  obtain ⟨g, cap, hv, _, hlt⟩ := h.form (by omega)
  refine ⟨g, cap, hv, hlt, fun j x hx => ?_⟩
  subst hv
  have hc := h.cells (g := g) rfl
  have := hc j (.string ⟨x.toArray⟩) (by simp [strs, hx])
  rwa [add_plain, Nat.zero_add] at this
def sgnB (j : Nat) : ByteArray := if j = 0 then ⟨#[]⟩ else signB j
theorem sgnB_pos {j : Nat} (h : 1 ≤ j) : sgnB j = signB j := by unfold sgnB; rw [if_neg (by omega)]
theorem sgn_size (j : Nat) : (sgnB j).size ≤ 2 := by
  unfold sgnB; split
  · decide
  · exact sign_size _
theorem signs94d (w : World) : Calls Tryd.prog 94 #[] w fun e w' => ∃ g, e = .returned (.slice (some ⟨g, 0, none⟩) 5 5) ∧ Below w.heap.size w w' ∧ g < w'.heap.size ∧ ∀ j < 5, w'.cell? ⟨g, j, none⟩ = some (.string (sgnB j)) := by
  refine (signs94 w).mono ?_
  rintro e w' ⟨rfl, rfl⟩
  refine ⟨w.heap.size, rfl, (Below.refl _ _).alloc (Nat.le_refl _) _, by simp, fun j hj => ?_⟩
  obtain rfl | rfl | rfl | rfl | rfl : j = 0 ∨ j = 1 ∨ j = 2 ∨ j = 3 ∨ j = 4 := by omega
  · simp [sgnB]
  · simp [sgnB, signB]
  · simp [sgnB, signB]
  · simp [sgnB, signB]
  · simp [sgnB, signB]

def NoneS (p0 p1 : ByteArray) (k : Nat) : Prop := ∀ j : Nat, 1 ≤ j → j < k → ∀ n : ByteArray, p0.data.toList = n.data.toList ++ signL j → matB ((j : Int), n, p1) = false
theorem noneS_succ {p0 p1 : ByteArray} {k : Nat} (h : NoneS p0 p1 k) (hr : ∀ n : ByteArray, 1 ≤ k → p0.data.toList = n.data.toList ++ signL k → matB ((k : Int), n, p1) = false) : NoneS p0 p1 (k + 1) := by
  intro j h1 h2 n hn
  by_cases e : j = k
  · subst e
    exact hr n h1 hn
  · exact h j h1 (by omega) n hn
theorem noneS_end {D : List UInt8} {p0 p1 : ByteArray} (h : NoneS p0 p1 5) (hp : pieces 34 D = [p0.data.toList, p1.data.toList, []]) : ∀ x, ¬ ReadsM D x := by
  rintro ⟨k, n, v⟩ hx
  have := readsM_pieces hx
  rw [hp] at this
  simp only [List.cons.injEq, and_true] at this
  obtain ⟨hk, _, _⟩ := mat_parts hx.1
  obtain ⟨g1, g4⟩ := kind_of hk
  obtain ⟨j, rfl⟩ : ∃ j : Nat, k = j := ⟨k.toNat, by omega⟩
  have hv := data_inj this.2
  subst hv
  have := h j (by omega) (by omega) n this.1
  rw [hx.1] at this; cases this
theorem readsM_made {D : List UInt8} {p0 p1 n : ByteArray} {k : Int} (hp : pieces 34 D = [p0.data.toList, p1.data.toList, []]) (hn : p0.data.toList = n.data.toList ++ signL k) (hg : matB (k, n, p1) = true) : ReadsM D (k, n, p1) := by
  refine ⟨hg, ?_⟩
  show (mtext k n p1).data.toList = D
  have := pieces_join (b := 34) D
  rw [hp, join_cons2, join_cons2, Lib.join_one, hn] at this
  rw [mtext_data, ← this]
theorem name_cut {p0 : ByteArray} {k m : Nat} (_hm : m + (signB k).size = p0.size) (he : ((p0.extract m p0.size).toList == (signB k).toList) = true) : p0.data.toList = (p0.extract 0 m).data.toList ++ signL k := by
  rw [Lib.toList_data, Lib.toList_data, beq_iff_eq, rest_data] at he
  unfold signL
  rw [← he, Lib.extract_from_zero, List.take_append_drop]
theorem name_not_cut {p0 n : ByteArray} {k m : Nat} (hm : m + (signB k).size = p0.size) (he : ((p0.extract m p0.size).toList == (signB k).toList) = false) : p0.data.toList ≠ n.data.toList ++ signL k := by
  intro h
  rw [Lib.toList_data, Lib.toList_data, beq_eq_false_iff_ne, rest_data] at he
  apply he
  have h1 := congrArg List.length h
  rw [List.length_append, ← Lib.size_eq, ← Lib.size_eq] at h1
  have h2 : (signL k).length = (signB k).size := (Lib.size_eq _).symm
  have h3 : m = n.data.toList.length := by rw [← Lib.size_eq]; omega
  rw [h, h3, List.drop_left]; rfl
theorem name_short {p0 n : ByteArray} {k : Nat} (hm : p0.size < (signB k).size) : p0.data.toList ≠ n.data.toList ++ signL k := by
  intro h
  have h1 := congrArg List.length h
  rw [List.length_append, ← Lib.size_eq, ← Lib.size_eq] at h1
  have h2 : (signL k).length = (signB k).size := (Lib.size_eq _).symm
  omega
theorem name_same {p0 n : ByteArray} {k m : Nat} (h1 : p0.data.toList = (p0.extract 0 m).data.toList ++ signL k) (h2 : p0.data.toList = n.data.toList ++ signL k) : n = p0.extract 0 m :=
  data_inj (List.append_cancel_right (h2.symm.trans h1))

set_option maxHeartbeats 8000000 in
set_option maxRecDepth 100000 in
theorem readm50 (s : ByteArray) (hs : s.size ≤ 1048576) (w : World) : Calls Tryd.prog 50 #[.string s] w (ReadEndM s w) := by
  have HB0 := Lib.hid ((Below.refl w.heap.size w).alloc (Nat.le_refl _) (.cells #[.int .i64 0, .string ⟨#[]⟩, .string ⟨#[]⟩] 43))
  have HP := Lib.hid (fun k n v (h : ReadsM s.data.toList (k, n, v)) => readsM_pieces h)
  have HZ := Lib.hid (fun k n v (h : ReadsM s.data.toList (k, n, v)) => readsM_size h)
  have hlen := pieces_count 34 s.data.toList
  go_enter Tryd.func50, Tryd.ntmps50
  go_wp2_with fail
  refine (split80 s 34 hs _).mono ?_
  rintro e w1 ⟨v, rfl, ho, hb⟩
  have hpos : 0 < (pieces 34 s.data.toList).length := by obtain ⟨p, ps, h⟩ := pieces_some 34 s.data.toList; rw [h]; simp
  obtain ⟨g, c, rfl, hg, hc⟩ := cut_cells ho hpos
  have HB1 := Lib.hid hb
  have HBw := Lib.hid (HB0.out.trans (hb.mono HB0.out.size))
  obtain ⟨z0, z1, z2, f0, f1, f2⟩ := cellz hb
  clear ho hb
  rw [← Lib.size_eq] at hlen
  by_cases h100 : 100 < s.size
  · have HN := Lib.hid (show ∀ x, ¬ ReadsM s.data.toList x by rintro ⟨k, n, v⟩ h; have := HZ.out k n v h; rw [← Lib.size_eq] at this; omega)
    have hbs := HBw.out
    clear hc
    go_wp2
    exact bodyPost_ret (v := .tuple #[matV 0 emp emp, .bool false]) (by simp [results, Tryd.results50, go_sem, emp, z0, z1, z2]) rfl ⟨0, emp, emp, false, rfl, ((hbs.setCell (Nat.le_refl _) _).setCell (Nat.le_refl _) _).setCell (Nat.le_refl _) _, Or.inr ⟨rfl, ⟨rfl, rfl, rfl⟩, HN.out⟩⟩
  by_cases h3 : (pieces 34 s.data.toList).length = 3
  case neg =>
    have HN := Lib.hid (show ∀ x, ¬ ReadsM s.data.toList x by rintro ⟨k, n, v⟩ h; have := HP.out k n v h; rw [this] at h3; exact h3 rfl)
    have hbs := HBw.out
    clear hc hpos
    have hq : (((pieces 34 s.data.toList).length : Int) != 3) = true := by rw [bne_iff_ne]; omega
    generalize (pieces 34 s.data.toList).length = N at hq hlen
    clear h3
    go_wp2
    exact bodyPost_ret (v := .tuple #[matV 0 emp emp, .bool false]) (by simp [results, Tryd.results50, go_sem, emp, z0, z1, z2]) rfl ⟨0, emp, emp, false, rfl, ((hbs.setCell (Nat.le_refl _) _).setCell (Nat.le_refl _) _).setCell (Nat.le_refl _) _, Or.inr ⟨rfl, ⟨rfl, rfl, rfl⟩, HN.out⟩⟩
  obtain ⟨p0, p1, p2, hps⟩ : ∃ p0 p1 p2 : ByteArray, pieces 34 s.data.toList = [p0.data.toList, p1.data.toList, p2.data.toList] := by
    match hp : pieces 34 s.data.toList, h3 with
    | [a, b, c], _ => exact ⟨⟨a.toArray⟩, ⟨b.toArray⟩, ⟨c.toArray⟩, rfl⟩
  have c0 := hc 0 p0.data.toList (by rw [hps]; rfl)
  have c1 := hc 1 p1.data.toList (by rw [hps]; rfl)
  have c2 := hc 2 p2.data.toList (by rw [hps]; rfl)
  have e0 : (⟨p0.data.toList.toArray⟩ : ByteArray) = p0 := data_inj rfl
  have e1 : (⟨p1.data.toList.toArray⟩ : ByteArray) = p1 := data_inj rfl
  have e2 : (⟨p2.data.toList.toArray⟩ : ByteArray) = p2 := data_inj rfl
  rw [e0] at c0
  rw [e1] at c1
  rw [e2] at c2
  have hz0 : p0.size ≤ 1048576 ∧ p1.size ≤ 1048576 := by
    have := congrArg List.length (pieces_join (b := 34) s.data.toList)
    rw [hps, join_cons2, join_cons2, Lib.join_one] at this
    simp only [List.length_append, List.length_cons, ← Lib.size_eq] at this
    omega
  rw [h3]
  clear e0 e1 e2 hc h3 hlen hpos
  have HPS := Lib.hid hps
  clear hps
  by_cases hp2 : 0 < p2.size
  · have HN := Lib.hid (show ∀ x, ¬ ReadsM s.data.toList x by
      rintro ⟨k, n, v⟩ h
      have := HP.out k n v h
      rw [HPS.out] at this
      simp only [List.cons.injEq, and_true] at this
      have h2 : p2.size = 0 := by rw [Lib.size_eq, this.2.2]; rfl
      omega)
    have hbs := HBw.out
    have hne := nonempty_of hp2
    go_wp2
    exact bodyPost_ret (v := .tuple #[matV 0 emp emp, .bool false]) (by simp [results, Tryd.results50, go_sem, emp, z0, z1, z2]) rfl ⟨0, emp, emp, false, rfl, ((hbs.setCell (Nat.le_refl _) _).setCell (Nat.le_refl _) _).setCell (Nat.le_refl _) _, Or.inr ⟨rfl, ⟨rfl, rfl, rfl⟩, HN.out⟩⟩
  have HPS2 := Lib.hid (show pieces 34 s.data.toList = [p0.data.toList, p1.data.toList, []] by rw [HPS.out, data_nil (s := p2) (by omega)])
  have hne := empty_of (s := p2) (by omega)
  go_wp2_with fail
  refine (signs94d _).mono ?_
  rintro e w2 ⟨gs, rfl, hb, hgs, hcs⟩
  have HCS := Lib.hid hcs
  have d0 := (hb.cell (p := ⟨g, 0, none⟩) hg).trans c0
  have d1 := (hb.cell (p := ⟨g, 1, none⟩) hg).trans c1
  have hg2 : g < w2.heap.size := Nat.lt_of_lt_of_le hg hb.size
  have HB2 := Lib.hid (HB1.out.trans (hb.mono HB1.out.size))
  have HBw2 := Lib.hid (HBw.out.trans (hb.mono HBw.out.size))
  clear hb hcs c0 c1 c2 z0 z1 z2 f0 f1 f2
  go_wp2_with fail
  go_loopw [28] (fun i wr => ∃ k : Nat, k ≤ 5 ∧ i = .int .i64 k ∧ Hid (NoneS p0 p1 k) ∧ Hid (Below w2.heap.size w2 wr)) (fun i _ => 5 - (intOf i).toNat)
  case atStart => exact ⟨0, by omega, rfl, fun j h1 h2 => by omega, Below.refl _ _⟩
  case round =>
    obtain ⟨k, hk5, rfl, hG, hb⟩ := hrel
    have HBz := Lib.hid (HB2.out.trans (hb.out.mono HB2.out.size))
    have HBv := Lib.hid (HBw2.out.trans (hb.out.mono HBw2.out.size))
    have q0 := (hb.out.cell (p := ⟨g, 0, none⟩) hg2).trans d0
    have q1 := (hb.out.cell (p := ⟨g, 1, none⟩) hg2).trans d1
    obtain ⟨z0, z1, z2, f0, f1, f2⟩ := cellz HBz.out
    by_cases hlt : k < 5
    · have qs := (hb.out.cell (p := ⟨gs, k, none⟩) hgs).trans (HCS.out k hlt)
      have hsz := sgn_size k
      by_cases hk0 : k = 0
      · subst hk0
        have HX := Lib.hid (noneS_succ hG.out (fun n h => by omega))
        generalize sgnB 0 = sg at qs hsz
        go_wp2
        go_roundw
        case rel => exact ⟨1, by omega, by go_num, HX, hb⟩
        case measure => simp [intOf]
      have hsg := sgnB_pos (j := k) (by omega)
      rw [hsg] at qs hsz
      have hkq : ((k : Int) == 0) = false := by rw [beq_eq_false_iff_ne]; omega
      by_cases hsh : p0.size < (signB k).size
      · have HX := Lib.hid (noneS_succ hG.out (fun n _ h => absurd h (name_short hsh)))
        generalize signB k = sg at qs hsz hsh
        go_wp2
        go_roundw
        case rel => exact ⟨k + 1, by omega, by go_num, HX, hb⟩
        case measure => simp [intOf]; omega
      obtain ⟨m, hm⟩ : ∃ m, m + (signB k).size = p0.size := ⟨p0.size - (signB k).size, by omega⟩
      by_cases he : ((p0.extract m p0.size).toList == (signB k).toList) = true
      case neg =>
        have he : ((p0.extract m p0.size).toList == (signB k).toList) = false := by simpa using he
        have HX := Lib.hid (noneS_succ hG.out (fun n _ h => absurd h (name_not_cut hm he)))
        have he' : ((p0.extract m p0.size).toList != (signB k).toList) = true := by simp only [bne, he]; rfl
        generalize signB k = sg at qs hsz hm he he'
        have hmn : decide ((m : Int) < 0) = false := by simp
        have hwr : IntKind.i64.wrap ((p0.size : Int) - (sg.size : Int)) = m := by rw [IntWalk.i64_in _ (by omega)]; omega
        go_wp2
        go_roundw
        case rel => exact ⟨k + 1, by omega, by go_num, HX, hb⟩
        case measure => simp [intOf]; omega
      have HN := Lib.hid (name_cut hm he)
      have he' : ((p0.extract m p0.size).toList != (signB k).toList) = false := by simp only [bne, he]; rfl
      generalize signB k = sg at qs hsz hm he he'
      have hmn : decide ((m : Int) < 0) = false := by simp
      have hwr : IntKind.i64.wrap ((p0.size : Int) - (sg.size : Int)) = m := by rw [IntWalk.i64_in _ (by omega)]; omega
      go_wp2_with fail
      have hmp : m ≤ p0.size := by omega
      have hgw : g < wr.heap.size := Nat.lt_of_lt_of_le hg2 hb.out.size
      have hgn : g ≠ wr.heap.size := by omega
      go_region_held3 (fun w' => w'.cell? ⟨g, 0, none⟩ = some (.string p0) ∧ w'.cell? ⟨g, 1, none⟩ = some (.string p1)) (go_keep) (first | fail)
      have hxs : (p0.extract 0 m).size ≤ 1048576 := by simp; omega
      generalize p0.extract 0 m = nm at HN hxs
      have HBx := Lib.hid (HBz.out.alloc HBz.out.size (.cells #[.int .i64 k, .string nm, .string p1] 43)).drew
      have HBy := Lib.hid (HBv.out.alloc HBv.out.size (.cells #[.int .i64 k, .string nm, .string p1] 43)).drew
      have HBt := Lib.hid (hb.out.alloc hb.out.size (.cells #[.int .i64 k, .string nm, .string p1] 43)).drew
      obtain ⟨b0, b1, b2⟩ := box3_cells (wr := wr) (k := k) (x1 := nm) (x2 := p1) (t := 43) (w1 := (wr.alloc (.cells #[.int .i64 k, .string nm, .string p1] 43)).drew) (below_drewN (Below.refl _ _) 1)
      have hbl : wr.heap.size < (wr.alloc (.cells #[.int .i64 k, .string nm, .string p1] 43)).drew.heap.size := by
        show wr.heap.size < (wr.alloc (.cells #[.int .i64 k, .string nm, .string p1] 43)).heap.size
        simp
      generalize (wr.alloc (.cells #[.int .i64 k, .string nm, .string p1] 43)).drew = w4 at HBx HBy HBt b0 b1 b2 hbl ⊢
      have HK := Lib.hid (fun hg => readsM_made (k := k) HPS2.out HN.out hg)
      have HS := Lib.hid (fun (hg : matB ((k : Int), nm, p1) = false) => noneS_succ hG.out (fun n _ h => by rw [data_inj (List.append_cancel_right (h.symm.trans HN.out)) ]; exact hg))
      go_wp2_with fail
      refine (good84 k nm p1 hxs hz0.2 _).mono ?_
      rintro e w5 ⟨rfl, hb5⟩
      have g0 := (hb5.cell (p := ⟨wr.heap.size, 0, none⟩) hbl).trans b0
      have g1 := (hb5.cell (p := ⟨wr.heap.size, 1, none⟩) hbl).trans b1
      have g2 := (hb5.cell (p := ⟨wr.heap.size, 2, none⟩) hbl).trans b2
      have HBx5 := Lib.hid (HBx.out.trans (hb5.mono HBx.out.size))
      have HBy5 := Lib.hid (HBy.out.trans (hb5.mono HBy.out.size))
      have HBt5 := Lib.hid (HBt.out.trans (hb5.mono HBt.out.size))
      clear hb5 z0 z1 z2 f0 f1 f2 b0 b1 b2 q0 q1 qs
      obtain ⟨z0, z1, z2, f0, f1, f2⟩ := cellz HBx5.out
      by_cases hgd : matB ((k : Int), nm, p1) = true
      · have HX := Lib.hid (HK.out hgd)
        have hbs := HBy5.out
        go_wp2
        exact bodyPost_ret (v := .tuple #[matV k nm p1, .bool true]) (by simp [results, Tryd.results50, go_sem, z0, z1, z2]) rfl ⟨k, nm, p1, true, rfl, ((hbs.setCell (Nat.le_refl _) _).setCell (Nat.le_refl _) _).setCell (Nat.le_refl _) _, Or.inl ⟨rfl, HX.out⟩⟩
      · have hgd : matB ((k : Int), nm, p1) = false := by simpa using hgd
        have HX := Lib.hid (HS.out hgd)
        go_wp2
        go_roundw
        case rel => exact ⟨k + 1, by omega, by go_num, HX, HBt5⟩
        case measure => simp [intOf]; omega
    · obtain rfl : k = 5 := by omega
      have HN := Lib.hid (noneS_end hG.out HPS2.out)
      have hbs := HBv.out
      go_wp2
      exact bodyPost_ret (v := .tuple #[matV 0 emp emp, .bool false]) (by simp [results, Tryd.results50, go_sem, emp, z0, z1, z2]) rfl ⟨0, emp, emp, false, rfl, ((hbs.setCell (Nat.le_refl _) _).setCell (Nat.le_refl _) _).setCell (Nat.le_refl _) _, Or.inr ⟨rfl, ⟨rfl, rfl, rfl⟩, HN.out⟩⟩

set_option maxHeartbeats 4000000 in
set_option maxRecDepth 100000 in
theorem walk_fnExactReadMatcher (w : World) (s : ByteArray) (hT : Tabs w ∧ MaxC w) (hs : s.size ≤ maxLen) :
    Calls Tryd.prog 12 #[.string s] w fun e w' => e = .returned (.bool true) ∧ Below w.heap.size w w' := by
  unfold maxLen at hs
  have HT := Lib.hid hT
  clear hT
  by_cases h1 : 1048576 < s.size
  · go_enter Tryd.func12, Tryd.ntmps12
    go_wp2
    go_ret
    exact ⟨rfl, Below.refl _ _⟩
  go_enter Tryd.func12, Tryd.ntmps12
  go_wp2_with fail
  refine (readm50 s (by omega) _).mono ?_
  rintro e w1 ⟨k, n, v, r, rfl, hb, hr⟩
  have HB := Lib.hid hb
  have HR := Lib.hid hr
  clear hb hr
  have HB1 := Lib.hid (HB.out.alloc HB.out.size (.cells #[.int .i64 k, .string n, .string v] 43))
  go_wp2_with fail
  refine (read48 s (by omega) _ (HT.out.1.below' HB1.out) (HT.out.2.below' HB1.out)).mono ?_
  rintro e w2 ⟨k', n', v', r', rfl, hb, hr⟩
  obtain ⟨rfl, rfl, rfl, rfl⟩ := readEndM_same HR.out hr
  obtain ⟨b0, b1, b2⟩ := box3_cells hb
  have hbl : w1.heap.size < w2.heap.size := by have := hb.size; simp at this; omega
  have HB2 := Lib.hid (HB1.out.trans (hb.mono HB1.out.size))
  have HB3 := Lib.hid (HB2.out.alloc HB2.out.size (.cells #[.int .i64 k, .string n, .string v] 43))
  clear hb hr HR
  have hrr : (r != r) = false := by cases r <;> rfl
  go_wp2_with fail
  refine (eq62 k n v _).mono ?_
  rintro e w3 ⟨rfl, hb⟩
  have HB4 := Lib.hid (HB3.out.trans (hb.mono HB3.out.size))
  clear hb
  go_wp2
  go_ret
  exact ⟨rfl, HB4.out⟩
end Go.Proofs.YtpbcgfgjdimpmaaDoor
