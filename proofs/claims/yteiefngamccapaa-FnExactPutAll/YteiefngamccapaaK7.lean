/- Contracts of reading a list in the model, over this seat's translation: the list whose bytes the text is, or that there is none. -/
import Derived.Test.YteiefngamccapaaK5
import Derived.Test.YteiefngamccapaaRead
import Derived.Test.YteiefngamccapaaK1
import Derived.Lib.Builder
import Derived.Lib.AppendStr
import Derived.Laws.Externs
namespace Go.Proofs.Yteiefngamccapaa
open Go.RowKit Go.Deep

theorem stla_congr {z z' : Nat → Int} : ∀ i, (∀ j, j ≤ i → z j = z' j) → stF z i = stF z' i ∧ laF z i = laF z' i
  | 0, h => by rw [stF_zero, stF_zero, laF_zero, laF_zero]; exact ⟨rfl, h 0 (Nat.le_refl _)⟩
  | i + 1, h => by
    obtain ⟨a, b⟩ := stla_congr i (fun j hj => h j (by omega))
    have hs : stF z (i + 1) = stF z' (i + 1) := by rw [stF_succ, stF_succ, a, h (i + 1) (Nat.le_refl _)]
    exact ⟨hs, by rw [laF_succ, laF_succ, b, hs]⟩
theorem zagL_pre (us : List Nat) (u : Nat) {j : Nat} (h : j < us.length) : zagL (us ++ [u]) j = zagL us j := by
  unfold zagL; rw [List.getD_eq_getElem?_getD, List.getD_eq_getElem?_getD, List.getElem?_append_left h]
theorem zagL_end (us : List Nat) (u : Nat) : zagL (us ++ [u]) us.length = zagI u := by
  unfold zagL; simp [List.getD]
def lastU (us : List Nat) : Int := if us.length = 0 then 0 else laF (zagL us) (us.length - 1)
def stepU (us : List Nat) : Int := stF (zagL us) (us.length - 1)
theorem lastU_one (u : Nat) : lastU ([] ++ [u]) = zagI u := by
  unfold lastU; rw [if_neg (by simp)]; simp only [List.nil_append, List.length_cons, List.length_nil]
  rw [show 0 + 1 - 1 = 0 from rfl, laF_zero]; rfl
theorem stepU_one (u : Nat) : stepU ([] ++ [u]) = 0 := by unfold stepU; simp only [List.nil_append, List.length_cons, List.length_nil]; rw [show 0 + 1 - 1 = 0 from rfl, stF_zero]
theorem stepU_nil : stepU [] = 0 := by unfold stepU; simp only [List.length_nil]; rw [show 0 - 1 = 0 from rfl, stF_zero]
theorem stepU_snoc {us : List Nat} (u : Nat) (h : 0 < us.length) : stepU (us ++ [u]) = RowKit.wrap64 (stepU us + zagI u) := by
  unfold stepU
  obtain ⟨n, hn⟩ : ∃ n, us.length = n + 1 := ⟨us.length - 1, by omega⟩
  rw [List.length_append, List.length_singleton, Nat.add_sub_cancel, hn, Nat.add_sub_cancel, stF_succ, ← hn, zagL_end, (stla_congr n (fun j hj => zagL_pre us u (by omega))).1, w64_eq]
theorem lastU_snoc {us : List Nat} (u : Nat) (h : 0 < us.length) : lastU (us ++ [u]) = RowKit.wrap64 (lastU us + RowKit.wrap64 (stepU us + zagI u)) := by
  rw [← stepU_snoc u h]
  unfold lastU stepU
  obtain ⟨n, hn⟩ : ∃ n, us.length = n + 1 := ⟨us.length - 1, by omega⟩
  rw [if_neg (by simp), if_neg (by omega), List.length_append, List.length_singleton, Nat.add_sub_cancel, hn, Nat.add_sub_cancel, laF_succ, (stla_congr n (fun j hj => zagL_pre us u (by omega))).2, w64_eq]
theorem decode_snoc (us : List Nat) (u : Nat) : decode (us ++ [u]) = decode us ++ [lastU (us ++ [u])] := by
  unfold decode lastU
  rw [if_neg (by simp), List.length_append, List.length_singleton, List.range_succ, List.map_append, List.map_singleton, Nat.add_sub_cancel]
  congr 1
  apply List.map_congr_left
  intro i hi
  rw [List.mem_range] at hi
  exact (stla_congr i (fun j hj => zagL_pre us u (by omega))).2
theorem at_le {D : List UInt8} {m a : Nat} {us : List Nat} (h : At D m us a) : a ≤ D.length := by
  have := congrArg List.length h.1
  rw [List.length_append, List.length_append, List.length_drop] at this
  have := h.2.1
  omega

/-- What the model's reader of a list answers. -/
def TakeM (D : List UInt8) (w : World) (e : Ending) (w' : World) : Prop :=
  ((e = .returned (.tuple #[.slice none 0 0, .int .i64 (-1)]) ∧ ∀ vs, ¬ Fr D vs) ∨
    ∃ (v : Value) (us : List Nat) (a : Nat), e = .returned (.tuple #[v, .int .i64 a]) ∧ At D us.length us a ∧ us.length ≤ 60 ∧ w'.ownsRow w.heap.size 3 1 v us.length ((decode us).map (Value.int .i64))) ∧ Below w.heap.size w w'
def TkInv (D : List UInt8) (m : Nat) (w : World) (us : List Nat) (a : Nat) (v : Value) (wr : World) : Prop :=
  At D m us a ∧ wr.ownsRow w.heap.size 3 1 v us.length ((decode us).map (Value.int .i64)) ∧ Below w.heap.size w wr
theorem tk_step {D : List UInt8} {m a u : Nat} {us : List Nat} {w w2 w3 : World} {v v' : Value} {o : Obj} {x : Int} (hat : At D m us a) (hst : Stands (D.drop a) u) (hx : lastU (us ++ [u]) = x) (ho : w2.ownsRow w.heap.size 3 1 v us.length ((decode us).map (Value.int .i64))) (hb : Below w.heap.size w w2)
    (ho' : w3.ownsRow w.heap.size 3 1 v' (us.length + 1) ((decode us).map (Value.int .i64) ++ [.int .i64 x])) (hg : (w2.alloc o).grownBy w3 v.ownBlock) : TkInv D m w (us ++ [u]) (a + (putV u).length) v' w3 := by
  refine ⟨at_next hat hst, ?_, own_grown (hb.alloc hb.size o) (ho.alloc o) hg (Nat.le_refl _)⟩
  rw [decode_snoc, hx, List.map_append, List.length_append]
  exact ho'

set_option maxHeartbeats 4000000 in
set_option maxRecDepth 100000 in
theorem take56 (s : ByteArray) (hs : s.size ≤ 1048576) (w : World) : Calls Try.prog 97 #[.string s, .int .i64 0] w (TakeM s.data.toList w) := by
  obtain ⟨i0, hi, hz0, hz1, hz2⟩ := info_parts Try.info3
  have hlen : s.data.toList.length = s.size := rfl
  obtain ⟨D, hD⟩ : ∃ D, D = s.data.toList := ⟨_, rfl⟩
  have HR45 := Lib.hid (fun a ha W => read45 s a hs ha W)
  rw [← hD] at HR45 hlen ⊢
  clear hD
  go_enter Try.func97, Try.ntmps97
  go_wp2_with fail
  refine (HR45.out 0 (by omega) _).mono ?_
  rintro e w1 ⟨⟨hn, rfl⟩ | ⟨m, hm, rfl⟩, hb1⟩
  · have HN := Lib.hid (fr_first (D := D) (by simpa using hn))
    have HB1 := Lib.hid hb1
    clear hn hb1
    go_wp2
    go_ret2
    exact ⟨.inl ⟨rfl, HN.out⟩, HB1.out⟩
  rw [List.drop_zero] at hm
  have HB1 := Lib.hid hb1
  by_cases h60 : m ≤ 60
  case neg =>
    have HN := Lib.hid (fr_many hm (by omega))
    obtain ⟨p, hp⟩ : ∃ p : Nat, p = (putV m).length := ⟨_, rfl⟩
    rw [← hp]
    clear hb1 hm hp
    go_wp2
    go_ret2
    exact ⟨.inl ⟨rfl, HN.out⟩, HB1.out⟩
  have hst := readV_is hm
  have hat := at_first hst
  have HI : Hid (TkInv D m w [] (0 + (putV m).length) (.slice none 0 0) w1) := Lib.hid ⟨by rw [Nat.zero_add]; exact hat, World.ownsRow_nil _ _ _ _, hb1⟩
  obtain ⟨p, hp⟩ : ∃ p : Nat, p = 0 + (putV m).length := ⟨_, rfl⟩
  rw [← hp] at HI ⊢
  clear hb1 hm hp hst hat
  go_wp2
  go_loopw [1, 7, 8, 9, 10] (fun ap v q r i wr => ∃ (us : List Nat) (a : Nat), us.length ≤ m ∧ ap = .int .i64 a ∧ q = .int .i64 (lastU us) ∧ r = .int .i64 (stepU us) ∧ i = .int .u64 us.length ∧ Hid (TkInv D m w us a v wr)) (fun _ _ _ _ i _ => m - (intOf i).toNat)
  case atStart => exact ⟨[], p, Nat.zero_le _, rfl, rfl, by rw [stepU_nil], rfl, HI⟩
  case round =>
    obtain ⟨us, a, hle, rfl, rfl, rfl, rfl, hI⟩ := hrel
    obtain ⟨hat, ho, hb⟩ := hI.out
    have hal := at_le hat
    have HA := Lib.hid hat; have HO := Lib.hid ho; have HB := Lib.hid hb
    clear hat ho hb hI
    by_cases hlt : us.length < m
    · go_wp2_with fail
      refine (HR45.out a (by omega) _).mono ?_
      rintro e w2 ⟨⟨hn, rfl⟩ | ⟨u, hu, rfl⟩, hb2⟩
      · have HN := Lib.hid (fr_none HA.out hlt hn)
        have HB2 := Lib.hid (HB.out.trans (hb2.mono HB.out.size))
        clear hn hb2
        go_wp2
        go_ret2
        exact ⟨.inl ⟨rfl, HN.out⟩, HB2.out⟩
      have hst := readV_is hu
      have HST := Lib.hid hst
      have HU := Lib.hid hst.1
      have HO2 := Lib.hid (own_below HO.out hb2)
      have HB2 := Lib.hid (HB.out.trans (hb2.mono HB.out.size))
      have HZ := Lib.hid (fun W => zag22 u hst.1 W)
      have HTk := Lib.hid (fun (w3 : World) (v v' : Value) (o : Obj) (x : Int) hx ho ho' hg => tk_step (w := w) (w2 := w2) (w3 := w3) (v := v) (v' := v') (o := o) (x := x) HA.out hst hx ho HB2.out ho' hg)
      obtain ⟨E, hE⟩ : ∃ E : Nat, E = a + (putV u).length := ⟨_, rfl⟩
      rw [← hE] at HTk ⊢
      clear hu hb2 hst hE HO HB
      by_cases h0 : us.length = 0
      · have hus : us = [] := List.eq_nil_of_length_eq_zero h0
        subst hus
        have HL := Lib.hid (lastU_one u)
        have HS := Lib.hid (stepU_one u)
        have e0 : lastU [] = 0 := rfl
        rw [e0, stepU_nil, List.length_nil]
        generalize zagI u = x at HZ HL
        go_wp2_with fail
        refine (HZ.out _).mono ?_
        rintro e w3 ⟨rfl, rfl⟩
        go_wp2_with (at_builtin; refine wpList_append_own _ rfl _ _ 47 rfl w.heap.size 3 i0 (.int .i64 0) 1 8 Try.underlying47 hi hz0 hz1 hz2 rfl (by decide) _ _ _ rfl (HO2.out.alloc _) ⟨w2.heap.size, 0, none⟩ 1 1 [.int .i64 x] rfl rfl new_cell ?c2 ?c3 ?c4 ?c5 ?_)
        case c2 => intro u hu; simp at hu; subst hu; rfl
        case c3 => unfold maxLen; simp
        case c4 => simp
        case c5 => have h1 := HB2.out.size; simp; omega
        intro v' w4 hown' hgrow _
        have HR := Lib.hid (HTk.out _ _ _ _ x HL.out HO2.out hown' hgrow)
        clear hown' hgrow
        go_wp2
        go_roundw
        case rel => exact ⟨[] ++ [u], E, by simp; omega, by go_num, by rw [HL.out], by rw [HS.out], by go_num, HR⟩
        case measure => simp [intOf]; omega
      · have HL := Lib.hid (lastU_snoc (us := us) u (by omega))
        have HS := Lib.hid (stepU_snoc (us := us) u (by omega))
        have hl0 : (us ++ [u]).length = us.length + 1 := by simp
        have HL0 := Lib.hid hl0
        generalize zagI u = x at HZ HL HS
        generalize hla : lastU us = la at HL ⊢
        generalize hsu : stepU us = su at HL HS ⊢
        clear hla hsu hl0
        go_wp2_with fail
        refine (HZ.out _).mono ?_
        rintro e w3 ⟨rfl, rfl⟩
        go_wp2_with (at_builtin; refine wpList_append_own _ rfl _ _ 47 rfl w.heap.size 3 i0 (.int .i64 0) 1 8 Try.underlying47 hi hz0 hz1 hz2 rfl (by decide) _ _ _ rfl (HO2.out.alloc _) ⟨w2.heap.size, 0, none⟩ 1 1 [.int .i64 (RowKit.wrap64 (la + RowKit.wrap64 (su + x)))] rfl rfl new_cell ?c2 ?c3 ?c4 ?c5 ?_)
        case c2 => intro u hu; simp at hu; subst hu; rfl
        case c3 => unfold maxLen; omega
        case c4 => omega
        case c5 => have h1 := HB2.out.size; simp; omega
        intro v' w4 hown' hgrow _
        have HR := Lib.hid (HTk.out _ _ _ _ _ HL.out HO2.out hown' hgrow)
        clear hown' hgrow
        go_wp2
        go_roundw
        case rel => exact ⟨us ++ [u], E, by rw [HL0.out]; omega, by go_num, by rw [HL.out], by rw [HS.out], by rw [HL0.out]; go_num, HR⟩
        case measure => simp [intOf]; omega
    · have hm : us.length = m := by omega
      subst hm
      obtain ⟨ao, c, rfl⟩ := own_slice HO.out
      go_wp2
      go_ret2
      exact ⟨.inr ⟨_, us, a, rfl, HA.out, h60, HO.out⟩, HB.out⟩
end Go.Proofs.Yteiefngamccapaa
namespace Go.Proofs.Yteiefngamccapaa
open Go.RowKit Go.Deep

/-- What fromSteps has done ahead of place k. -/
def accF (f : Nat → Int) (off : Nat) : Nat → Int
  | 0 => f off
  | i + 1 => RowKit.wrap64 (f (off + (i + 1)) + accF f off i)
def sumF (f : Nat → Int) (off k : Nat) (j : Nat) : Int := if off ≤ j ∧ j < off + k then accF f off (j - off) else f j
theorem accF_succ (f : Nat → Int) (off i : Nat) : accF f off (i + 1) = RowKit.wrap64 (f (off + (i + 1)) + accF f off i) := by rw [accF]
theorem sum_step {f : Nat → Int} {off k : Nat} (j : Nat) : (if j = off + (k + 1) then RowKit.wrap64 (f (off + (k + 1)) + accF f off k) else sumF f off (k + 1) j) = sumF f off (k + 2) j := by
  unfold sumF
  by_cases e : j = off + (k + 1)
  · subst e
    rw [if_pos rfl, if_pos ⟨by omega, by omega⟩, show off + (k + 1) - off = k + 1 by omega, accF_succ]
  · rw [if_neg e]
    by_cases h : off ≤ j ∧ j < off + (k + 1)
    · rw [if_pos h, if_pos ⟨by omega, by omega⟩]
    · rw [if_neg h, if_neg (fun h' => h ⟨by omega, by omega⟩)]

theorem from_small (ao : Option Addr) (n c : Nat) (hn : n ≤ 1) (w : World) : Calls Try.prog 129 #[.slice ao n c] w fun e w' => (∃ v, e = .returned v) ∧ w' = w := by
  go_enter Try.func129, Try.ntmps129
  go_wp2
  go_loop [2] (fun i => i = .int .i64 1) (fun _ => 0)
  case atStart => rfl
  case round =>
    obtain rfl := hrel
    go_wp2
    go_end0
    exact ⟨⟨_, rfl⟩, rfl⟩

set_option maxHeartbeats 2000000 in
set_option maxRecDepth 100000 in
theorem from54 (g off n c N M B : Nat) (t : TypeId) (f : Nat → Int) (hn : 2 ≤ n) (hn2 : n ≤ 60) (hoff : off + n ≤ M) (hB : B ≤ g) (w : World) (h : RF w g t N M f) :
    Calls Try.prog 129 #[.slice (some ⟨g, off, none⟩) n c] w fun e w' => (∃ v, e = .returned v) ∧ RF w' g t N M (sumF f off n) ∧ SetB B w w' := by
  have H := Lib.hid h
  clear h
  go_enter Try.func129, Try.ntmps129
  go_wp2
  go_loopw [2] (fun i wr => ∃ k : Nat, k + 1 ≤ n ∧ i = .int .i64 (k + 1 : Nat) ∧ Hid (RF wr g t N M (sumF f off (k + 1))) ∧ Hid (SetB B w wr)) (fun i _ => n - (intOf i).toNat)
  case atStart => exact ⟨0, by omega, rfl, Lib.hid (H.out.congr fun i hi => by
      unfold sumF
      by_cases e : off ≤ i ∧ i < off + (0 + 1)
      · rw [if_pos e]
        obtain rfl : i = off := by omega
        rw [Nat.sub_self, accF]
      · rw [if_neg e]), Lib.hid (SetB.refl _ _)⟩
  case round =>
    obtain ⟨k, hk, rfl, hR, hS⟩ := hrel
    by_cases hlt : k + 1 < n
    · have c1 := hR.out.cell (i := off + (k + 1)) (by omega)
      have c0 := hR.out.cell (i := off + k) (by omega)
      have e1 : sumF f off (k + 1) (off + (k + 1)) = f (off + (k + 1)) := by unfold sumF; rw [if_neg (by omega)]
      have e0 : sumF f off (k + 1) (off + k) = accF f off k := by unfold sumF; rw [if_pos ⟨by omega, by omega⟩, show off + k - off = k by omega]
      rw [e1] at c1
      rw [e0] at c0
      have f1 := hR.out.frozen (off + (k + 1))
      have HR := Lib.hid ((hR.out.drew.set (off + (k + 1)) (RowKit.wrap64 (f (off + (k + 1)) + accF f off k))).congr (fun j _ => sum_step j))
      have HS := Lib.hid (hS.out.step (i := off + (k + 1)) hB (.int .i64 (RowKit.wrap64 (f (off + (k + 1)) + accF f off k))))
      clear e0 e1
      generalize f (off + (k + 1)) = x1 at c1 HR HS
      generalize accF f off k = x0 at c0 HR HS
      go_wp2
      go_region
      all_goals
        go_wp2
        go_roundw
        case rel => exact ⟨k + 1, by omega, by go_num, HR, HS⟩
        case measure => simp [intOf]; omega
    · obtain rfl : n = k + 1 := by omega
      go_wp2
      go_end0
      exact ⟨⟨_, rfl⟩, hR.out, hS.out⟩

theorem behind49 (g n c : Nat) (hn : 2 ≤ n) (hc : n ≤ c) (w : World) : Calls Try.prog 123 #[.slice (some ⟨g, 0, none⟩) n c] w fun e w' => e = .returned (.slice (some ⟨g, 1, none⟩) (n - 1) (c - 1)) ∧ w' = w := by
  go_enter Try.func123, Try.ntmps123
  go_wp2
  go_ret
  exact ⟨rfl, rfl⟩
theorem behind_small (ao : Option Addr) (n c : Nat) (hn : n ≤ 1) (hc : n ≤ c) (ha : 0 < n → ∃ a, ao = some a) (w : World) : Calls Try.prog 123 #[.slice ao n c] w fun e w' => (∃ bo d, e = .returned (.slice bo 0 d)) ∧ w' = w := by
  by_cases h0 : n = 0
  · subst h0
    cases ao with
    | none =>
      go_enter Try.func123, Try.ntmps123
      go_wp2
      go_ret
      exact ⟨⟨_, _, rfl⟩, rfl⟩
    | some a =>
      go_enter Try.func123, Try.ntmps123
      go_wp2
      go_ret
      exact ⟨⟨_, _, rfl⟩, rfl⟩
  · obtain rfl : n = 1 := by omega
    obtain ⟨a, rfl⟩ := ha (by omega)
    go_enter Try.func123, Try.ntmps123
    go_wp2
    all_goals
      go_ret
      exact ⟨⟨_, _, rfl⟩, rfl⟩

theorem below_drewN2 {B : Nat} {w w' : World} (h : Below B w w') (q : Nat) : Below B w (w'.drewN q) := by
  induction q with
  | zero => exact h
  | succ q ih => exact ih.drew
theorem RF.below {w w' : World} {g : Nat} {t : TypeId} {N n : Nat} {f : Nat → Int} (h : RF w g t N n f) (hb : Below w.heap.size w w') : RF w' g t N n f := h.of_block (hb.block g h.lt)
theorem RF.irow {w : World} {g : Nat} {t : TypeId} {N : Nat} {xs : List Int} (h : RF w g t N xs.length (at0 xs)) (hx : ∀ x ∈ xs, In64 x) : IRow w w.heap.size (some ⟨g, 0, none⟩) xs :=
  ⟨hx, fun _ => ⟨g, 0, rfl, h.lt, fun i hi => by rw [Nat.zero_add, h.cell hi, at0_get hi]⟩⟩

theorem made_row (w : World) (n : Nat) : RF (w.alloc (.cells (madeCells #[.int .i64 0] n) 3)) w.heap.size 3 n n (fun _ => 0) :=
  ⟨Nat.le_refl _, _, fun _ _ => rfl, World.rowIs_made w (.int .i64 0) n 3⟩

end Go.Proofs.Yteiefngamccapaa
namespace Go.Proofs.Yteiefngamccapaa
open Go.RowKit Go.Deep

theorem sizeB : (Try.prog.info? 134).map (·.size) = some 2 := by kernel_rfl
theorem liesB : liesAt Try.prog Try.prog.depth 134 (2 / Try.prog.cellsOf 134) 0 134 1 = true := by kernel_rfl
theorem noEsc (x : Value) (w : World) : (callFunc 130 #[x]).run Try.prog w = .ok (.value x) w := by
  rw [run_callFunc_extern (e := Extern.AbiNoEscape.same) Try.func130 (by kernel_rfl) (by kernel_rfl) (by kernel_rfl) (by kernel_rfl)]
  rfl

set_option maxHeartbeats 1000000 in
set_option maxRecDepth 100000 in
theorem check60 (B b : Nat) (bs : List Value) (w : World) (h : Lib.IsBuilder 134 5 B b bs w) :
    Calls Try.prog 126 #[.pointer (some ⟨b, 0, none⟩)] w fun e w' => e = .returned (.tuple #[]) ∧ Lib.BuilderAt 134 5 B b (.pointer (some ⟨b, 0, none⟩)) bs w' ∧ Below B w w' := by
  obtain ⟨j, hj, hs⟩ := Option.map_eq_some_iff.1 sizeB
  have hj2 : j.size ≠ 0 := by omega
  cases h with
  | inr h =>
    have hc := h.cell0
    have hne := fun W => Lib.run_neq_ptr_same W (⟨b, 0, none⟩ : Addr) Try.underlying132 hj
    have HA := Lib.hid h
    clear h
    go_enter Try.func126, Try.ntmps126
    go_wp2
    go_end0
    exact ⟨rfl, HA.out, Below.refl _ _⟩
  | inl h =>
    have hc := h.cell0
    have hfz := h.frozen0
    have hto := Lib.run_to_unsafe w ⟨b, 0, none⟩ Try.underlying132 Try.underlying154 hj hj2 h.shape (Nat.zero_lt_succ 1)
    have hfr := Lib.run_from_unsafe w ⟨b, 0, none⟩ Try.underlying154 Try.underlying132 hj h.shape liesB
    have hno := noEsc
    have HA := Lib.hid (h.used (.pointer (some ⟨b, 0, none⟩)))
    have HB := Lib.hid ((Below.refl B w).setCell (p := ⟨b, 0, none⟩) h.1 (.pointer (some ⟨b, 0, none⟩)))
    clear h
    go_enter Try.func126, Try.ntmps126
    go_wp2
    go_end0
    exact ⟨rfl, HA.out, HB.out⟩

set_option maxHeartbeats 2000000 in
set_option maxRecDepth 100000 in
theorem write50 (B b : Nat) (bs : List Value) (s : ByteArray) (w : World) (h : Lib.IsBuilder 134 5 B b bs w) (hlen : bs.length + s.size ≤ 1048576) (hBw : B ≤ w.heap.size) :
    Calls Try.prog 106 #[.pointer (some ⟨b, 0, none⟩), .string s] w fun e w' => (∃ v, e = .returned v) ∧ Lib.BuilderAt 134 5 B b (.pointer (some ⟨b, 0, none⟩)) (bs ++ Lib.strCells s) w' ∧ Below B w w' := by
  obtain ⟨i0, hi, hz0, hz1, hz2⟩ := info_parts Try.info5
  have H := Lib.hid h
  clear h
  go_enter Try.func106, Try.ntmps106
  go_wp2_with fail
  refine (check60 B b bs _ H.out).mono ?_
  rintro e w1 ⟨rfl, ⟨hB, v, hbk, hown, hne⟩, hb1⟩
  have c1 : w1.cell? ⟨b, 1, none⟩ = some v := by rw [Lib.cell_of_heap hbk]; rfl
  have hlt : b < w1.heap.size := (Array.getElem?_eq_some_iff.1 hbk).1
  have hsz := hb1.size
  have HO := Lib.hid hown; have HK := Lib.hid hbk; have HN := Lib.hid hne; have HB1 := Lib.hid hb1
  clear hown hbk hne hb1
  go_wp2_with (at_builtin; refine Lib.wpList_append_own_string _ rfl _ _ 117 9 rfl B 5 i0 Try.underlying117 Try.underlying9 hi hz0 hz1 hz2 _ _ _ rfl HO.out s rfl ?c3 ?c4 ?c5 ?_)
  case c3 => unfold maxLen; omega
  case c4 => omega
  case c5 => omega
  intro v' w2 hown' hgrow _
  have hb2 : w2.heap[b]? = some (.cells #[.pointer (some ⟨b, 0, none⟩), v] 134 (0, 0)) := by rw [hgrow.block b hlt (fun e => HN.out e.symm)]; exact HK.out
  have d1 : w2.cell? ⟨b, 1, none⟩ = some v := by rw [Lib.cell_of_heap hb2]; rfl
  have f1 : w2.frozen? ⟨b, 1, none⟩ = false := Lib.frozen_of_heap hb2 1
  obtain ⟨ao, cap, rfl⟩ := own_slice hown'
  have HP := Lib.hid (Lib.BuilderAt.put (T := 134) (e := 5) hB hb2 (bs' := bs ++ Lib.strCells s) (by simpa [Lib.strCells_length] using hown') (by decide))
  have HB2 := Lib.hid ((HB1.out.grown hgrow (by omega) (fun k hk => (HO.out.lt k hk).1)).setCell (p := ⟨b, 1, none⟩) hB (.slice ao (bs.length + s.size) cap))
  clear hown' hgrow hb2
  go_wp2
  go_ret2
  exact ⟨⟨_, rfl⟩, HP.out, HB2.out⟩
end Go.Proofs.Yteiefngamccapaa
