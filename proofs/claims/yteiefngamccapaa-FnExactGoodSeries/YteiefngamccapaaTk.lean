/- Contracts of reading a list in the model, over this seat's translation: the list whose bytes the text is, or that there is none. -/
import Derived.Test.YteiefngamccapaaRo
import Derived.Test.YteiefngamccapaaRead
namespace Go.Proofs.Yteiefngamccapaa
open Go.RowKit Go.Deep

theorem stla_congr {z z' : Nat → Int} : ∀ i, (∀ j, j ≤ i → z j = z' j) → stF z i = stF z' i ∧ laF z i = laF z' i
  | 0, h => by rw [stF_zero, stF_zero, laF_zero, laF_zero]; exact ⟨rfl, h 0 (Nat.le_refl _)⟩
  | i + 1, h => by
    obtain ⟨a, b⟩ := stla_congr i (fun j hj => h j (by omega))
    have hs : stF z (i + 1) = stF z' (i + 1) := by rw [stF_succ, stF_succ, a, h (i + 1) (Nat.le_refl _)]
    exact ⟨hs, by rw [laF_succ, laF_succ, b, hs]⟩
theorem zagL_pre (us : List Nat) (u : Nat) {j : Nat} (h : j < us.length) : zagL (us ++ [u]) j = zagL us j := by
  unfold zagL; rw [List.getD_eq_getElem?_getD, List.getD_eq_getElem?_getD, List.getElem?_append_left h]
theorem zagL_end (us : List Nat) (u : Nat) : zagL (us ++ [u]) us.length = zagI u := by
  unfold zagL; simp [List.getD]
def lastU (us : List Nat) : Int := if us.length = 0 then 0 else laF (zagL us) (us.length - 1)
def stepU (us : List Nat) : Int := stF (zagL us) (us.length - 1)
theorem lastU_one (u : Nat) : lastU ([] ++ [u]) = zagI u := by
  unfold lastU; rw [if_neg (by simp)]; simp only [List.nil_append, List.length_cons, List.length_nil]
  rw [show 0 + 1 - 1 = 0 from rfl, laF_zero]; rfl
theorem stepU_one (u : Nat) : stepU ([] ++ [u]) = 0 := by unfold stepU; simp only [List.nil_append, List.length_cons, List.length_nil]; rw [show 0 + 1 - 1 = 0 from rfl, stF_zero]
theorem stepU_nil : stepU [] = 0 := by unfold stepU; simp only [List.length_nil]; rw [show 0 - 1 = 0 from rfl, stF_zero]
theorem stepU_snoc {us : List Nat} (u : Nat) (h : 0 < us.length) : stepU (us ++ [u]) = RowKit.wrap64 (stepU us + zagI u) := by
  unfold stepU
  obtain ⟨n, hn⟩ : ∃ n, us.length = n + 1 := ⟨us.length - 1, by omega⟩
  rw [List.length_append, List.length_singleton, Nat.add_sub_cancel, hn, Nat.add_sub_cancel, stF_succ, ← hn, zagL_end, (stla_congr n (fun j hj => zagL_pre us u (by omega))).1, w64_eq]
theorem lastU_snoc {us : List Nat} (u : Nat) (h : 0 < us.length) : lastU (us ++ [u]) = RowKit.wrap64 (lastU us + RowKit.wrap64 (stepU us + zagI u)) := by
  rw [← stepU_snoc u h]
  unfold lastU stepU
  obtain ⟨n, hn⟩ : ∃ n, us.length = n + 1 := ⟨us.length - 1, by omega⟩
  rw [if_neg (by simp), if_neg (by omega), List.length_append, List.length_singleton, Nat.add_sub_cancel, hn, Nat.add_sub_cancel, laF_succ, (stla_congr n (fun j hj => zagL_pre us u (by omega))).2, w64_eq]
theorem decode_snoc (us : List Nat) (u : Nat) : decode (us ++ [u]) = decode us ++ [lastU (us ++ [u])] := by
  unfold decode lastU
  rw [if_neg (by simp), List.length_append, List.length_singleton, List.range_succ, List.map_append, List.map_singleton, Nat.add_sub_cancel]
  congr 1
  apply List.map_congr_left
  intro i hi
  rw [List.mem_range] at hi
  exact (stla_congr i (fun j hj => zagL_pre us u (by omega))).2
theorem at_le {D : List UInt8} {m a : Nat} {us : List Nat} (h : At D m us a) : a ≤ D.length := by
  have := congrArg List.length h.1
  rw [List.length_append, List.length_append, List.length_drop] at this
  have := h.2.1
  omega

/-- What the model's reader of a list answers. -/
def TakeM (D : List UInt8) (w : World) (e : Ending) (w' : World) : Prop :=
  ((e = .returned (.tuple #[.slice none 0 0, .int .i64 (-1)]) ∧ ∀ vs, ¬ Fr D vs) ∨
    ∃ (v : Value) (us : List Nat) (a : Nat), e = .returned (.tuple #[v, .int .i64 a]) ∧ At D us.length us a ∧ us.length ≤ 60 ∧ w'.ownsRow w.heap.size 3 1 v us.length ((decode us).map (Value.int .i64))) ∧ Below w.heap.size w w'
def TkInv (D : List UInt8) (m : Nat) (w : World) (us : List Nat) (a : Nat) (v : Value) (wr : World) : Prop :=
  At D m us a ∧ wr.ownsRow w.heap.size 3 1 v us.length ((decode us).map (Value.int .i64)) ∧ Below w.heap.size w wr
theorem tk_step {D : List UInt8} {m a u : Nat} {us : List Nat} {w w2 w3 : World} {v v' : Value} {o : Obj} {x : Int} (hat : At D m us a) (hst : Stands (D.drop a) u) (hx : lastU (us ++ [u]) = x) (ho : w2.ownsRow w.heap.size 3 1 v us.length ((decode us).map (Value.int .i64))) (hb : Below w.heap.size w w2)
    (ho' : w3.ownsRow w.heap.size 3 1 v' (us.length + 1) ((decode us).map (Value.int .i64) ++ [.int .i64 x])) (hg : (w2.alloc o).grownBy w3 v.ownBlock) : TkInv D m w (us ++ [u]) (a + (putV u).length) v' w3 := by
  refine ⟨at_next hat hst, ?_, own_grown (hb.alloc hb.size o) (ho.alloc o) hg (Nat.le_refl _)⟩
  rw [decode_snoc, hx, List.map_append, List.length_append]
  exact ho'

set_option maxHeartbeats 4000000 in
set_option maxRecDepth 100000 in
theorem take56 (s : ByteArray) (hs : s.size ≤ 1048576) (w : World) : Calls Try.prog 97 #[.string s, .int .i64 0] w (TakeM s.data.toList w) := by
  obtain ⟨i0, hi, hz0, hz1, hz2⟩ := info_parts Try.info3
  have hlen : s.data.toList.length = s.size := rfl
  obtain ⟨D, hD⟩ : ∃ D, D = s.data.toList := ⟨_, rfl⟩
  have HR45 := Lib.hid (fun a ha W => read45 s a hs ha W)
  rw [← hD] at HR45 hlen ⊢
  clear hD
  go_enter Try.func97, Try.ntmps97
  go_wp2_with fail
  refine (HR45.out 0 (by omega) _).mono ?_
  rintro e w1 ⟨⟨hn, rfl⟩ | ⟨m, hm, rfl⟩, hb1⟩
  · have HN := Lib.hid (fr_first (D := D) (by simpa using hn))
    have HB1 := Lib.hid hb1
    clear hn hb1
    go_wp2
    go_ret2
    exact ⟨.inl ⟨rfl, HN.out⟩, HB1.out⟩
  rw [List.drop_zero] at hm
  have HB1 := Lib.hid hb1
  by_cases h60 : m ≤ 60
  case neg =>
    have HN := Lib.hid (fr_many hm (by omega))
    obtain ⟨p, hp⟩ : ∃ p : Nat, p = (putV m).length := ⟨_, rfl⟩
    rw [← hp]
    clear hb1 hm hp
    go_wp2
    go_ret2
    exact ⟨.inl ⟨rfl, HN.out⟩, HB1.out⟩
  have hst := readV_is hm
  have hat := at_first hst
  have HI : Hid (TkInv D m w [] (0 + (putV m).length) (.slice none 0 0) w1) := Lib.hid ⟨by rw [Nat.zero_add]; exact hat, World.ownsRow_nil _ _ _ _, hb1⟩
  obtain ⟨p, hp⟩ : ∃ p : Nat, p = 0 + (putV m).length := ⟨_, rfl⟩
  rw [← hp] at HI ⊢
  clear hb1 hm hp hst hat
  go_wp2
  go_loopw [1, 7, 8, 9, 10] (fun ap v q r i wr => ∃ (us : List Nat) (a : Nat), us.length ≤ m ∧ ap = .int .i64 a ∧ q = .int .i64 (lastU us) ∧ r = .int .i64 (stepU us) ∧ i = .int .u64 us.length ∧ Hid (TkInv D m w us a v wr)) (fun _ _ _ _ i _ => m - (intOf i).toNat)
  case atStart => exact ⟨[], p, Nat.zero_le _, rfl, rfl, by rw [stepU_nil], rfl, HI⟩
  case round =>
    obtain ⟨us, a, hle, rfl, rfl, rfl, rfl, hI⟩ := hrel
    obtain ⟨hat, ho, hb⟩ := hI.out
    have hal := at_le hat
    have HA := Lib.hid hat; have HO := Lib.hid ho; have HB := Lib.hid hb
    clear hat ho hb hI
    by_cases hlt : us.length < m
    · go_wp2_with fail
      refine (HR45.out a (by omega) _).mono ?_
      rintro e w2 ⟨⟨hn, rfl⟩ | ⟨u, hu, rfl⟩, hb2⟩
      · have HN := Lib.hid (fr_none HA.out hlt hn)
        have HB2 := Lib.hid (HB.out.trans (hb2.mono HB.out.size))
        clear hn hb2
        go_wp2
        go_ret2
        exact ⟨.inl ⟨rfl, HN.out⟩, HB2.out⟩
      have hst := readV_is hu
      have HST := Lib.hid hst
      have HU := Lib.hid hst.1
      have HO2 := Lib.hid (own_below HO.out hb2)
      have HB2 := Lib.hid (HB.out.trans (hb2.mono HB.out.size))
      have HZ := Lib.hid (fun W => zag22 u hst.1 W)
      have HTk := Lib.hid (fun (w3 : World) (v v' : Value) (o : Obj) (x : Int) hx ho ho' hg => tk_step (w := w) (w2 := w2) (w3 := w3) (v := v) (v' := v') (o := o) (x := x) HA.out hst hx ho HB2.out ho' hg)
      obtain ⟨E, hE⟩ : ∃ E : Nat, E = a + (putV u).length := ⟨_, rfl⟩
      rw [← hE] at HTk ⊢
      clear hu hb2 hst hE HO HB
      by_cases h0 : us.length = 0
      · have hus : us = [] := List.eq_nil_of_length_eq_zero h0
        subst hus
        have HL := Lib.hid (lastU_one u)
        have HS := Lib.hid (stepU_one u)
        have e0 : lastU [] = 0 := rfl
        rw [e0, stepU_nil, List.length_nil]
        generalize zagI u = x at HZ HL
        go_wp2_with fail
        refine (HZ.out _).mono ?_
        rintro e w3 ⟨rfl, rfl⟩
        go_wp2_with (at_builtin; refine wpList_append_own _ rfl _ _ 47 rfl w.heap.size 3 i0 (.int .i64 0) 1 8 Try.underlying47 hi hz0 hz1 hz2 rfl (by decide) _ _ _ rfl (HO2.out.alloc _) ⟨w2.heap.size, 0, none⟩ 1 1 [.int .i64 x] rfl rfl new_cell ?c2 ?c3 ?c4 ?c5 ?_)
        case c2 => intro u hu; simp at hu; subst hu; rfl
        case c3 => unfold maxLen; simp
        case c4 => simp
        case c5 => have h1 := HB2.out.size; simp; omega
        intro v' w4 hown' hgrow _
        have HR := Lib.hid (HTk.out _ _ _ _ x HL.out HO2.out hown' hgrow)
        clear hown' hgrow
        go_wp2
        go_roundw
        case rel => exact ⟨[] ++ [u], E, by simp; omega, by go_num, by rw [HL.out], by rw [HS.out], by go_num, HR⟩
        case measure => simp [intOf]; omega
      · have HL := Lib.hid (lastU_snoc (us := us) u (by omega))
        have HS := Lib.hid (stepU_snoc (us := us) u (by omega))
        have hl0 : (us ++ [u]).length = us.length + 1 := by simp
        have HL0 := Lib.hid hl0
        generalize zagI u = x at HZ HL HS
        generalize hla : lastU us = la at HL ⊢
        generalize hsu : stepU us = su at HL HS ⊢
        clear hla hsu hl0
        go_wp2_with fail
        refine (HZ.out _).mono ?_
        rintro e w3 ⟨rfl, rfl⟩
        go_wp2_with (at_builtin; refine wpList_append_own _ rfl _ _ 47 rfl w.heap.size 3 i0 (.int .i64 0) 1 8 Try.underlying47 hi hz0 hz1 hz2 rfl (by decide) _ _ _ rfl (HO2.out.alloc _) ⟨w2.heap.size, 0, none⟩ 1 1 [.int .i64 (RowKit.wrap64 (la + RowKit.wrap64 (su + x)))] rfl rfl new_cell ?c2 ?c3 ?c4 ?c5 ?_)
        case c2 => intro u hu; simp at hu; subst hu; rfl
        case c3 => unfold maxLen; omega
        case c4 => omega
        case c5 => have h1 := HB2.out.size; simp; omega
        intro v' w4 hown' hgrow _
        have HR := Lib.hid (HTk.out _ _ _ _ _ HL.out HO2.out hown' hgrow)
        clear hown' hgrow
        go_wp2
        go_roundw
        case rel => exact ⟨us ++ [u], E, by rw [HL0.out]; omega, by go_num, by rw [HL.out], by rw [HS.out], by rw [HL0.out]; go_num, HR⟩
        case measure => simp [intOf]; omega
    · have hm : us.length = m := by omega
      subst hm
      obtain ⟨ao, c, rfl⟩ := own_slice HO.out
      go_wp2
      go_ret2
      exact ⟨.inr ⟨_, us, a, rfl, HA.out, h60, HO.out⟩, HB.out⟩
end Go.Proofs.Yteiefngamccapaa
