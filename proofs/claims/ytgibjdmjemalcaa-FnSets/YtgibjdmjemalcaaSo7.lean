/- Contracts of the sort and of Concat at lists of numbers, over this seat's translation. -/
import Derived.Test.YtgibjdmjemalcaaRm7
import Derived.Test.YtgibjdmjemalcaaShelf
namespace Go.Proofs.Ytgibjdmjemalcaa
open Go.RowKit Go.Deep Go.ChangeShapes Go.WideShapes Go.ChangeAt Go.Sort

theorem put_take (l' : List Int) (cur : Array Value) (h : l'.length ≤ cur.size) : (putCells (Value.int .i64) 0 l'.toArray cur).toList.take (l'.length * 1) = l'.map (Value.int .i64) := by
  rw [Nat.mul_one]
  apply List.ext_getElem?
  intro i
  rw [List.getElem?_take, List.getElem?_map]
  by_cases hi : i < l'.length
  · rw [if_pos hi, Array.getElem?_toList]
    unfold putCells
    rw [Array.getElem?_mapIdx, Array.getElem?_eq_getElem (by omega), Option.map_some, if_pos ⟨Nat.zero_le _, by simpa using hi⟩]
    simp [hi]
  · rw [if_neg hi, List.getElem?_eq_none (by omega)]; rfl
theorem own_sorted {w : World} {base cap m g : Nat} {os : Array Obj} {l l' : List Int} (h : w.ownsRow base 3 1 (.slice (some ⟨g, 0, none⟩) l.length cap) l.length (l.map (Value.int .i64))) (hl : l'.length = l.length) :
    (sortWorld (Value.int .i64) w g 0 m l'.toArray os).ownsRow base 3 1 (.slice (some ⟨g, 0, none⟩) l'.length cap) l'.length (l'.map (Value.int .i64)) ∧ w.grownBy (sortWorld (Value.int .i64) w g 0 m l'.toArray os) (some g) := by
  obtain ⟨h0, ⟨he, _⟩ | ⟨g', cap', cur, he, hge, hh, hle, hmx, hsz, htk⟩⟩ := h
  · cases he
  injection he with h1 _ h3
  injection h1 with h1
  injection h1 with h1
  subst h1; subst h3
  have hlt := (Array.getElem?_eq_some_iff.1 hh).1
  refine ⟨⟨by simp, .inr ⟨g, cap, putCells (Value.int .i64) 0 l'.toArray cur, rfl, hge, ?_, by omega, hmx, ?_, ?_⟩⟩, rfl, rfl, rfl, ?_, ?_⟩
  · show ((w.heap.modify g (onCells (putCells (Value.int .i64) 0 l'.toArray))) ++ os)[g]? = _
    rw [Array.getElem?_append_left (by simpa using hlt), Array.getElem?_modify, if_pos rfl, hh]; rfl
  · simp [putCells, hsz]
  · exact put_take l' cur (by omega)
  · show w.heap.size ≤ ((w.heap.modify g (onCells (putCells (Value.int .i64) 0 l'.toArray))) ++ os).size
    simp
  · intro k hk hne
    show ((w.heap.modify g (onCells (putCells (Value.int .i64) 0 l'.toArray))) ++ os)[k]? = _
    rw [Array.getElem?_append_left (by simpa using hk), Array.getElem?_modify, if_neg (fun e => hne (by rw [e]))]
theorem own_holds {w : World} {base cap g : Nat} {l : List Int} (h : w.ownsRow base 3 1 (.slice (some ⟨g, 0, none⟩) l.length cap) l.length (l.map (Value.int .i64))) : Holds (Value.int .i64) w g 0 l.toArray := by
  obtain ⟨hc, hr⟩ := row_own h
  intro j hj
  have hj' : j < l.length := by simpa using hj
  obtain ⟨g', t, N, e, _, hR⟩ := hr (by omega)
  injection e with e
  injection e with e
  subst e
  rw [Nat.zero_add]
  refine ⟨?_, hR.frozen j⟩
  rw [hR.cell hj', at0_get hj']
  simp [hj']
theorem swo_cmp : SWO (ltOf cmpF) := ⟨fun x => by simp only [ltOf, decide_eq_false_iff_not, cmpF_lt]; omega, fun x y z h1 h2 => by simp only [ltOf, decide_eq_true_eq, cmpF_lt] at *; omega, fun x y z h1 h2 => by simp only [ltOf, decide_eq_false_iff_not, cmpF_lt] at *; omega⟩
theorem ltOf_cmp (x y : Int) : ltOf cmpF x y = decide (x < y) := by unfold ltOf; rw [Bool.eq_iff_iff, decide_eq_true_eq, decide_eq_true_eq, cmpF_lt]
/-- The list sorted. -/
def srtL (l : List Int) : List Int := l.mergeSort fun x y => !(ltOf cmpF) y x
theorem srt_perm (l : List Int) : (srtL l).Perm l := List.mergeSort_perm _ _
theorem srt_len (l : List Int) : (srtL l).length = l.length := (srt_perm l).length_eq
theorem srt_le (l : List Int) : (srtL l).Pairwise fun x y => x ≤ y := by
  have h : (srtL l).Pairwise fun x y => (!(ltOf cmpF) y x) = true := by
    unfold srtL
    refine List.pairwise_mergeSort (fun a b c h1 h2 => ?_) (fun a b => ?_) l
    · simp only [ltOf_cmp, Bool.not_eq_true', decide_eq_false_iff_not] at *; omega
    · simp only [ltOf_cmp, Bool.or_eq_true, Bool.not_eq_true', decide_eq_false_iff_not]; omega
  refine h.imp ?_
  intro a b hab
  simp only [ltOf_cmp, Bool.not_eq_true', decide_eq_false_iff_not] at hab
  omega
theorem upR_pair : ∀ {l : List Int}, upR l → l.Pairwise (fun x y => x < y)
  | [], _ => List.Pairwise.nil
  | x :: l, h => by
    obtain ⟨h1, h2⟩ := upR_cons.1 h
    exact List.pairwise_cons.2 ⟨h1, upR_pair h2⟩
theorem pair_upR : ∀ {l : List Int}, l.Pairwise (fun x y => x < y) → upR l
  | [], _ => upR_nil
  | x :: l, h => by
    obtain ⟨h1, h2⟩ := List.pairwise_cons.1 h
    exact upR_cons.2 ⟨h1, pair_upR h2⟩
/-- The first list and what the second one has beside it, sorted: what is in either. -/
theorem srt_eith {a b : List Int} (ha : upR a) (hb : upR b) : srtL (a ++ siftR b a false) = eithR a b := by
  have hnd : (a ++ siftR b a false).Nodup := by
    rw [List.nodup_append]
    refine ⟨(upR_pair ha).imp (fun h => by omega), (upR_pair (upR_filter _ hb)).imp (fun h => by omega), fun x hx y hy e => ?_⟩
    subst e
    have := (siftR_mem.1 hy).2
    simp [hx] at this
  have hnd2 : (srtL (a ++ siftR b a false)).Nodup := (srt_perm _).nodup_iff.2 hnd
  refine upR_ext (pair_upR ((srt_le _).and hnd2 |>.imp (fun h => by have := h.1; have := h.2; omega))) (upR_eith ha) fun x => ?_
  rw [(srt_perm _).mem_iff, List.mem_append, siftR_mem, eithR_mem]
  constructor
  · rintro (h | ⟨h, _⟩)
    · exact .inl h
    · exact .inr h
  · rintro (h | h)
    · exact .inl h
    · by_cases hx : x ∈ a
      · exact .inl hx
      · exact .inr ⟨h, decide_eq_false hx⟩

theorem egI : ∀ args w, (callFunc 37 args).run Try.prog w = .ok (.enter 37 args) w := enters_of Try.func37 (by kernel_rfl) rfl
/-- A list of a row of one's own, sorted in place. -/
theorem sortL (g cap base : Nat) (l : List Int) (hn : l.length ≤ 1048576) (w : World) (h : w.ownsRow base 3 1 (.slice (some ⟨g, 0, none⟩) l.length cap) l.length (l.map (Value.int .i64))) :
    Calls Try.prog 34 #[.slice (some ⟨g, 0, none⟩) l.length cap, .func (.func 37) #[] #[]] w fun e w' =>
      e = .returned (.tuple #[]) ∧ w'.ownsRow base 3 1 (.slice (some ⟨g, 0, none⟩) (srtL l).length cap) (srtL l).length ((srtL l).map (Value.int .i64)) ∧ w.grownBy w' (some g) := by
  have hlt : g < w.heap.size := (h.lt g rfl).2
  have hs := Any.slices_SortFunc_total Try.sortI (Value.int .i64) (fun _ => rfl) cmpF swo_cmp 37 #[] g 0 cap l.toArray w egI
    (fun m os dk _ x y => (cmpI x y _ rfl _).mono fun _ _ hh => ⟨hh.1, 0, #[], by rw [← hh.2, grow_empty]; rfl⟩) (own_holds h) hlt (by simp; omega)
    (fun x y h1 h2 => by simp only [ltOf_cmp, decide_eq_false_iff_not] at h1 h2; omega)
  change Calls Try.prog 34 #[.slice (some ⟨g, 0, none⟩) l.toArray.size cap, .func (.func 37) #[] #[]] w _ at hs
  rw [List.size_toArray] at hs
  refine hs.mono ?_
  rintro e w' ⟨he, n, os, rfl⟩
  exact ⟨he, own_sorted h (srt_len l)⟩
theorem sortNil (p : Option Addr) (cap : Nat) (w : World) : Calls Try.prog 34 #[.slice p 0 cap, .func (.func 37) #[] #[]] w fun e w' => e = .returned (.tuple #[]) ∧ w' = w := by
  have hs := AnyF.slices_SortFunc_none Try.sortI0 p cap (.func (.func 37) #[] #[]) w
  exact hs
/-- What Grow answers at the nil list: an empty list with room. -/
theorem growL (n : Nat) (hn : n ≤ 1048576) (w : World) :
    Calls Try.prog 40 #[.slice none 0 0, .int .i64 n] w fun e w' => ∃ v, e = .returned v ∧ w'.ownsRow w.heap.size 3 1 v 0 [] ∧ Below w.heap.size w w' := by
  by_cases h0 : n = 0
  · subst h0
    refine (Any8.slices_Grow_room Try.growI none 0 0 0 w (by omega) (by omega) (by omega) (by omega)).mono ?_
    rintro e w' ⟨rfl, rfl⟩
    exact ⟨_, rfl, World.ownsRow_nil _ _ _ _, Below.refl _ _⟩
  · obtain ⟨i0, hi, hz0, hz1, hz2⟩ := info_parts Try.info3
    refine (Any8.slices_Grow_grow Try.growI i0 (.int .i64 0) hi hz0 (by omega) none 0 0 n [] w (by omega) (by omega) (by rw [hz2]; omega) (by omega) (by simp) (fun _ => rfl) (fun a e => by cases e)).mono ?_
    rintro e w' ⟨rfl, rfl⟩
    refine ⟨_, rfl, ⟨by simp, .inr ⟨w.heap.size, _, _, rfl, Nat.le_refl _, blk_alloc_new w.drew _, Nat.zero_le _, grownCap_le_maxLen w (0 + n) 0 _ (by unfold maxLen; omega), ?_, by simp⟩⟩, ?_⟩
    · have hge := grownCap_ge w (0 + n) 0 3
      simp only [Array.size_append, List.size_toArray, size_zeroCells]
      show 0 + (0 + n - 0) * 1 + (grownCap w (0 + n) 0 3 - (0 + n)) * 1 = grownCap w (0 + n) 0 3 * 1
      omega
    · exact ((Below.refl _ _).drew).alloc (Nat.le_refl _) _
end Go.Proofs.Ytgibjdmjemalcaa
