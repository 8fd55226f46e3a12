/- Contract of being of a form in the program (cut into its parts, found one behind another), over this seat's translation: it answers likeS. -/
import Derived.Test.YtpbcgfgjdimpmaaDoorLikem
import Derived.Test.YtpbcgfgjdimpmaaDoorShelf2
namespace Go.Proofs.YtpbcgfgjdimpmaaDoor
open Go.RowKit Go.Deep

/-- The library's own bound on short texts lies in memory, some number. -/
def MaxC (w : World) : Prop := ∃ m, w.cell? ⟨2, 0, none⟩ = some (.int .i64 m)
theorem MaxC.size {w : World} (h : MaxC w) : 2 < w.heap.size := by
  obtain ⟨m, hm⟩ := h
  exact World.block_lt_of_cell? w _ hm
theorem MaxC.below' {w w' : World} (h : MaxC w) (hb : Below w.heap.size w w') : MaxC w' := by
  obtain ⟨m, hm⟩ := h
  exact ⟨m, (hb.cell (p := ⟨2, 0, none⟩) (MaxC.size ⟨m, hm⟩)).trans hm⟩

theorem toBytes {l : List UInt8} : (⟨l.toArray⟩ : ByteArray).data.toList = l := rfl
theorem split_len (c : UInt8) : ∀ (fuel : Nat) (s : List UInt8), s.length < fuel → (pieces c s).length = Lib.countFrom [c] fuel s + 1
  | 0, s, h => absurd h (Nat.not_lt_zero _)
  | fuel + 1, s, h => by
    rcases index_byte s c with ⟨h1, h2⟩ | ⟨i, h1, h2, h3⟩
    · rw [Lib.countFrom, h1, if_pos (by rfl), pieces_free h2]; rfl
    · have hne : ¬ ((i : Int) == -1) = true := fun h => by have := beq_iff_eq.1 h; omega
      have hlt : (s.drop (i + 1)).length < fuel := by
        have := congrArg List.length h2
        simp only [List.length_append, List.length_take, List.length_cons, List.length_drop] at this ⊢
        omega
      rw [Lib.countFrom, h1, if_neg hne]
      simp only [Int.toNat_natCast, List.length_cons, List.length_nil, Nat.zero_add]
      have e := split_len c fuel _ hlt
      conv => lhs; rw [h2, pieces_cut h3]
      rw [List.length_cons, e]; omega
theorem data_inj {a b : ByteArray} (h : a.data.toList = b.data.toList) : a = b := by
  obtain ⟨⟨a⟩⟩ := a
  obtain ⟨⟨b⟩⟩ := b
  simp at h; subst h; rfl
theorem map_back : ∀ {l : List ByteArray} {p : List (List UInt8)}, l.map (·.data.toList) = p → l = p.map (fun x => (⟨x.toArray⟩ : ByteArray))
  | [], [], _ => rfl
  | [], _ :: _, h => by simp at h
  | _ :: _, [], h => by simp at h
  | a :: l, x :: p, h => by
    simp only [List.map_cons, List.cons.injEq] at h
    rw [List.map_cons, ← map_back h.2]
    congr 1
    exact data_inj (by rw [h.1])

def Splitted (c : UInt8) (s : ByteArray) (w : World) (e : Ending) (w' : World) : Prop :=
  e = .returned (.slice (some ⟨w.heap.size, 0, none⟩) (pieces c s.data.toList).length (pieces c s.data.toList).length) ∧ Below w.heap.size w w' ∧ w.heap.size < w'.heap.size ∧
    ∀ (j : Nat) x, (pieces c s.data.toList)[j]? = some x → w'.cell? ⟨w.heap.size, j, none⟩ = some (.string ⟨x.toArray⟩)
theorem split106 (c : UInt8) (s : ByteArray) (hs : s.size ≤ 1048576) (w : World) (hM : MaxC w) : Calls Tryd.prog 106 #[.string s, .string ⟨#[c]⟩] w (Splitted c s w) := by
  obtain ⟨m, hm⟩ := hM
  refine (Tryd.strings_Split s ⟨#[c]⟩ m w (by omega) hm (Nat.le_refl 1)).mono ?_
  rintro e w' ⟨rfl, rfl⟩
  have hc : Lib.countB s ⟨#[c]⟩ = Lib.countFrom [c] (s.data.toList.length + 1) s.data.toList := by
    unfold Lib.countB; rfl
  have hp : (Lib.splitB ⟨#[c]⟩ 0 (Lib.countB s ⟨#[c]⟩) s) = (pieces c s.data.toList).map (fun x => (⟨x.toArray⟩ : ByteArray)) := by
    apply map_back
    rw [Lib.splitB_data, hc]
    exact split_pieces c _ _ (Nat.lt_succ_self _)
  have hl := split_len c (s.data.toList.length + 1) s.data.toList (Nat.lt_succ_self _)
  rw [← hc] at hl
  refine ⟨by rw [hl], (Below.refl _ _).alloc (Nat.le_refl _) _, by simp, fun j x hx => ?_⟩
  rw [hp]
  simp [hx]

theorem pieces_count (b : UInt8) : ∀ s : List UInt8, (pieces b s).length ≤ s.length + 1
  | [] => by simp [pieces]
  | x :: s => by
    have ih := pieces_count b s
    obtain ⟨p, ps, h⟩ := pieces_some b s
    rw [pieces, h]
    rw [h] at ih
    by_cases e : x = b
    · rw [if_pos e]; simp only [List.length_cons] at ih ⊢; omega
    · rw [if_neg e]; simp only [List.length_cons] at ih ⊢; omega
theorem trimPre_size (s p : List UInt8) : (Lib.trimPrefix s p).length ≤ s.length := by
  unfold Lib.trimPrefix; split <;> simp
theorem trimSuf_size (s p : List UInt8) : (Lib.trimSuffix s p).length ≤ s.length := by
  unfold Lib.trimSuffix; split <;> simp
theorem cut_size (s p : List UInt8) : (Lib.cut s p).2.1.length ≤ s.length := by
  unfold Lib.cut; split <;> simp
theorem parts_cases {D : List UInt8} : (∃ p, pieces 42 D = [p]) ∨ ∃ p ms e, pieces 42 D = p :: (ms ++ [e]) := by
  obtain ⟨p, ps, h⟩ := pieces_some 42 D
  rcases List.eq_nil_or_concat ps with rfl | ⟨ms, e, rfl⟩
  · exact Or.inl ⟨p, h⟩
  · exact Or.inr ⟨p, ms, e, by rw [h, List.concat_eq_append]⟩
theorem eq_data (f s : ByteArray) : (f.data.toList == s.data.toList) = (f.toList == s.toList) := by rw [Lib.toList_data, Lib.toList_data]

set_option maxHeartbeats 4000000 in
set_option maxRecDepth 100000 in
theorem form90 (f s : ByteArray) (hf : f.size ≤ 1048576) (hs : s.size ≤ 1048576) (w : World) (hM : MaxC w) : Calls Tryd.prog 90 #[.string f, .string s] w fun e w' => e = .returned (.bool (likeS f s)) ∧ Below w.heap.size w w' := by
  have HM := Lib.hid hM
  clear hM
  rcases parts_cases (D := f.data.toList) with ⟨p, hP⟩ | ⟨p, ms, e, hP⟩
  · have HL := Lib.hid (show likeS f s = (f.toList == s.toList) by unfold likeS; rw [like_alone hP, eq_data])
    go_enter Tryd.func90, Tryd.ntmps90
    go_wp2_with fail
    refine (split106 42 f hf _ HM.out).mono ?_
    rintro e w1 ⟨rfl, hb, _, _⟩
    rw [hP]
    have HB := Lib.hid hb
    clear hb
    go_wp2
    go_ret
    exact ⟨ret_bool HL.out.symm, HB.out⟩
  have HL := Lib.hid (show likeS f s = _ from like_parts hP s.data.toList)
  have hlen : (pieces 42 f.data.toList).length = ms.length + 2 := by rw [hP]; simp
  have hms : ms.length ≤ 1048576 := by
    have := pieces_count 42 f.data.toList
    have h2 := Lib.size_eq f
    omega
  go_enter Tryd.func90, Tryd.ntmps90
  go_wp2_with fail
  refine (split106 42 f hf _ HM.out).mono ?_
  rintro e w1 ⟨rfl, hb, hlt, hc⟩
  rw [hlen]
  rw [hP] at hc
  have HB := Lib.hid hb
  have c0 := hc 0 p rfl
  have c1 := hc (ms.length + 1) e (by simp)
  have HC := Lib.hid (fun (j : Nat) (h : j < ms.length) => hc (j + 1) ms[j] (by simp [List.getElem?_append, h]))
  clear hb hc
  go_wp2_with fail
  refine (Tryd.strings_CutPrefix s ⟨p.toArray⟩ _).mono ?_
  rintro e w2 ⟨rfl, rfl⟩
  rw [toBytes]
  obtain ⟨r1, hr1⟩ : ∃ r1 : ByteArray, r1 = ⟨(Lib.trimPrefix s.data.toList p).toArray⟩ := ⟨_, rfl⟩
  have hr1' : r1.data.toList = Lib.trimPrefix s.data.toList p := by rw [hr1]
  have hs1 : r1.size ≤ 1048576 := by rw [Lib.size_eq, hr1']; have := trimPre_size s.data.toList p; rw [Lib.size_eq] at hs; omega
  rw [← hr1]
  have HR1 := Lib.hid hr1'
  clear hr1 hr1'
  cases ho1 : Lib.hasPrefix s.data.toList p with
  | false =>
    have HF := Lib.hid (show likeS f s = false by rw [HL.out, ho1]; rfl)
    go_wp2
    go_ret
    exact ⟨ret_bool HF.out.symm, HB.out⟩
  | true =>
  have HL1 := Lib.hid (show likeS f s = _ by rw [HL.out, ho1, ← HR1.out, Bool.true_and])
  clear ho1
  go_wp2_with fail
  refine (Tryd.strings_CutSuffix r1 ⟨e.toArray⟩ _ (by omega)).mono ?_
  rintro e' w2 ⟨rfl, rfl⟩
  rw [toBytes]
  obtain ⟨r2, hr2⟩ : ∃ r2 : ByteArray, r2 = ⟨(Lib.trimSuffix r1.data.toList e).toArray⟩ := ⟨_, rfl⟩
  have hr2' : r2.data.toList = Lib.trimSuffix r1.data.toList e := by rw [hr2]
  have hs2 : r2.size ≤ 1048576 := by rw [Lib.size_eq, hr2']; have := trimSuf_size r1.data.toList e; rw [Lib.size_eq] at hs1; omega
  rw [← hr2]
  have HR2 := Lib.hid hr2'
  clear hr2 hr2'
  cases ho2 : Lib.hasSuffix r1.data.toList e with
  | false =>
    have HF := Lib.hid (show likeS f s = false by rw [HL1.out, ho2]; rfl)
    go_wp2
    go_ret
    exact ⟨ret_bool HF.out.symm, HB.out⟩
  | true =>
  have HL2 := Lib.hid (show likeS f s = greedy ms r2.data.toList by rw [HL1.out, ho2, HR2.out, Bool.true_and])
  clear ho2
  go_wp2_with fail
  rw [show ms.length + 2 - 1 - 1 = ms.length by omega]
  go_loopw [7, 46] (fun r i wr => ∃ (k : Nat) (x : ByteArray), k ≤ ms.length ∧ i = .int .i64 k ∧ r = .string x ∧ x.size ≤ 1048576 ∧ Hid (likeS f s = greedy (ms.drop k) x.data.toList) ∧ Hid (∃ m, wr = w2.drewN m)) (fun _ i _ => ms.length - (intOf i).toNat)
  case atStart => exact ⟨0, r2, Nat.zero_le _, rfl, rfl, hs2, HL2, 0, rfl⟩
  case round =>
    obtain ⟨k, x, hk, rfl, rfl, hx, hG, hW⟩ := hrel
    by_cases hlt : k < ms.length
    · have hcell : wr.cell? ⟨w.heap.size, 1 + k, none⟩ = some (.string ⟨ms[k].toArray⟩) := by
        obtain ⟨m, rfl⟩ := hW.out
        rw [Nat.add_comm]
        exact HC.out k hlt
      have hM2 : MaxC wr := by
        obtain ⟨m, rfl⟩ := hW.out
        exact (HM.out.below' (below_drewN HB.out m))
      have HG := Lib.hid (show likeS f s = ((Lib.cut x.data.toList ms[k]).2.2 && greedy (ms.drop (k + 1)) (Lib.cut x.data.toList ms[k]).2.1) by rw [hG.out, List.drop_eq_getElem_cons hlt]; rfl)
      have HZ := Lib.hid (cut_size x.data.toList ms[k])
      obtain ⟨m0, hm0⟩ := hM2
      have HM0 := Lib.hid hm0
      clear hm0
      generalize ms[k] = q at hcell HG HZ
      go_wp2_with fail
      refine (Tryd.strings_Cut x ⟨q.toArray⟩ m0 _ (by omega) HM0.out).mono ?_
      rintro e' w3 ⟨rfl, hw3⟩
      rw [toBytes]
      have HW3 := Lib.hid (show ∃ m, w3 = w2.drewN m by obtain ⟨a, rfl⟩ := hw3; exact drew_more hW.out a)
      clear hw3 hcell
      obtain ⟨r3, hr3⟩ : ∃ r3 : ByteArray, r3 = ⟨(Lib.cut x.data.toList q).2.1.toArray⟩ := ⟨_, rfl⟩
      have hr3' : r3.data.toList = (Lib.cut x.data.toList q).2.1 := by rw [hr3]
      have hs3 : r3.size ≤ 1048576 := by rw [Lib.size_eq, hr3']; have := HZ.out; rw [Lib.size_eq] at hx; omega
      rw [← hr3]
      have HR3 := Lib.hid hr3'
      clear hr3 hr3'
      generalize (⟨(Lib.cut x.data.toList q).1.toArray⟩ : ByteArray) = r0
      cases ho3 : (Lib.cut x.data.toList q).2.2 with
      | false =>
        have HF := Lib.hid (show likeS f s = false by rw [HG.out, ho3]; rfl)
        have HW := Lib.hid (show Below w.heap.size w w3 by obtain ⟨m, rfl⟩ := HW3.out; exact below_drewN HB.out m)
        go_wp2
        go_ret
        exact ⟨ret_bool HF.out.symm, HW.out⟩
      | true =>
        have HF := Lib.hid (show likeS f s = greedy (ms.drop (k + 1)) r3.data.toList by rw [HG.out, ho3, HR3.out, Bool.true_and])
        clear ho3
        go_wp2
        go_roundw
        case rel => exact ⟨k + 1, r3, by omega, by go_num, rfl, hs3, HF, HW3⟩
        case measure => simp [intOf]; omega
    · obtain rfl : k = ms.length := by omega
      have HF := Lib.hid (show likeS f s = true by rw [hG.out, List.drop_length]; rfl)
      have HW := Lib.hid (show Below w.heap.size w wr by obtain ⟨m, rfl⟩ := hW.out; exact below_drewN HB.out m)
      clear hW
      go_wp2
      go_ret
      exact ⟨ret_bool HF.out.symm, HW.out⟩
end Go.Proofs.YtpbcgfgjdimpmaaDoor
