/- Contracts of lists of references in the model: whether they are good, what is in both, what is in the first alone; over this seat's translation. -/
import Derived.Test.YtgibjdmjemalcaaRia
namespace Go.Proofs.Ytgibjdmjemalcaa
open Go.RowKit Go.Deep

theorem inM (n lo hi : Int) (b : Bool) (hb : (decide (lo ≤ n) && decide (n ≤ hi)) = b) (w : World) : Calls Try.prog 39 #[.int .i64 n, .int .i64 lo, .int .i64 hi] w fun e w' => e = .returned (.bool b) ∧ w = w' := by
  subst hb
  by_cases h1 : lo ≤ n
  · go_enter Try.func39, Try.ntmps39
    go_wp2
    go_ret
    exact ⟨ret_bool (by simp [h1]), rfl⟩
  · go_enter Try.func39, Try.ntmps39
    go_wp2
    go_ret
    exact ⟨ret_bool (by simp; omega), rfl⟩

set_option maxHeartbeats 1000000 in
theorem hasM (ao : Option Addr) (cap : Nat) (l : List Int) (x : Int) (hn : l.length ≤ 1048576) (w : World) (h : IRow w w.heap.size ao l) :
    Calls Try.prog 32 #[.slice ao l.length cap, .int .i64 x] w fun e w' => e = .returned (.bool (decide (x ∈ l))) ∧ w = w' := by
  have H := Lib.hid h
  clear h
  go_enter Try.func32, Try.ntmps32
  go_wp2
  go_loop [9] (fun i => ∃ k : Nat, k ≤ l.length ∧ i = .int .i64 k ∧ Hid (∀ t, t < k → at0 l t ≠ x)) (fun i => l.length - (intOf i).toNat)
  case atStart => exact ⟨0, Nat.zero_le _, rfl, Lib.hid (fun t ht => by omega)⟩
  case round =>
    obtain ⟨k, hk, rfl, hI⟩ := hrel
    by_cases hlt : k < l.length
    · obtain ⟨b, off, hao, hbl, hc⟩ := H.out.2 (by omega)
      subst hao
      have c1 := hc k hlt
      have hg := at0_get hlt
      have hm := at0_mem hlt
      rw [← hg] at c1
      have HM := Lib.hid hm
      clear hc hg hm
      by_cases hx : at0 l k = x
      · have HY : Hid (decide (x ∈ l) = true) := Lib.hid (decide_eq_true (hx ▸ HM.out))
        rw [hx] at c1
        clear hx
        go_wp2
        go_ret
        exact ⟨ret_bool HY.out.symm, rfl⟩
      · have HI : Hid (∀ t, t < k + 1 → at0 l t ≠ x) := Lib.hid (fun t ht => by
          by_cases e : t = k
          · subst e; exact hx
          · exact hI.out t (by omega))
        have hne : (at0 l k == x) = false := beq_eq_false_iff_ne.2 hx
        clear hx
        generalize at0 l k = y at c1 hne
        go_wp2
        go_round
        case rel => exact ⟨k + 1, by omega, by go_num, HI⟩
        case measure => simp [intOf]; omega
    · have HN : Hid (decide (x ∈ l) = false) := Lib.hid (decide_eq_false (has_take hI.out (by omega)))
      go_wp2
      go_ret
      exact ⟨ret_bool HN.out.symm, rfl⟩

/-- Those of the first k are within bounds and rise. -/
def upTo (l : List Int) (k : Nat) : Prop := ∀ t, t < k → 0 ≤ at0 l t ∧ at0 l t ≤ 999 ∧ (0 < t → at0 l (t - 1) < at0 l t)
theorem upTo_all {l : List Int} (h20 : l.length ≤ 20) (h : upTo l l.length) : goodR l = true :=
  goodR_yes ⟨h20, fun k hk => ⟨(h k hk).1, (h k hk).2.1⟩, fun k hk => by have := (h (k + 1) hk).2.2 (by omega); simpa using this⟩
theorem upTo_more {l : List Int} {k : Nat} (h : upTo l k) (h0 : 0 ≤ at0 l k) (h1 : at0 l k ≤ 999) (h2 : 0 < k → at0 l (k - 1) < at0 l k) : upTo l (k + 1) := fun t ht => by
  by_cases e : t = k
  · subst e; exact ⟨h0, h1, h2⟩
  · exact h t (by omega)

set_option maxHeartbeats 2000000 in
theorem risingM (ao : Option Addr) (cap : Nat) (l : List Int) (h20 : l.length ≤ 20) (w : World) (h : IRow w w.heap.size ao l) :
    Calls Try.prog 31 #[.slice ao l.length cap, .int .i64 0, .int .i64 999] w fun e w' => e = .returned (.bool (goodR l)) ∧ w = w' := by
  have H := Lib.hid h
  clear h
  go_enter Try.func31, Try.ntmps31
  go_wp2
  go_loop [11] (fun i => ∃ k : Nat, k ≤ l.length ∧ i = .int .i64 k ∧ Hid (upTo l k)) (fun i => l.length - (intOf i).toNat)
  case atStart => exact ⟨0, Nat.zero_le _, rfl, Lib.hid (fun t ht => by omega)⟩
  case round =>
    obtain ⟨k, hk, rfl, hI⟩ := hrel
    by_cases hlt : k < l.length
    · obtain ⟨b, off, hao, hbl, hc⟩ := H.out.2 (by omega)
      subst hao
      have c1 := hc k hlt
      rw [← at0_get hlt] at c1
      by_cases hin : 0 ≤ at0 l k ∧ at0 l k ≤ 999
      case neg =>
        have HG := Lib.hid (goodR_out hlt (by omega))
        have HC := Lib.hid (fun W => inM (at0 l k) 0 999 false (by simp; omega) W)
        clear hc hin
        generalize at0 l k = y at c1 HC
        go_wp2_with fail
        refine (HC.out _).mono ?_
        rintro e w1 ⟨rfl, rfl⟩
        go_wp2
        go_ret
        exact ⟨ret_bool HG.out.symm, rfl⟩
      have HC := Lib.hid (fun W => inM (at0 l k) 0 999 true (by simp; omega) W)
      cases k with
      | zero =>
        have HI := Lib.hid (upTo_more hI.out hin.1 hin.2 (by omega))
        rw [Nat.add_zero] at c1
        clear hc hin
        generalize at0 l 0 = y at c1 HC
        go_wp2_with fail
        refine (HC.out _).mono ?_
        rintro e w1 ⟨rfl, rfl⟩
        go_wp2
        go_round
        case rel => exact ⟨1, by omega, by go_num, HI⟩
        case measure => simp [intOf]; omega
      | succ j =>
        have c0 := hc j (by omega)
        rw [← at0_get (by omega)] at c0
        clear hc
        by_cases hup : at0 l j < at0 l (j + 1)
        · have HI := Lib.hid (upTo_more hI.out hin.1 hin.2 (fun _ => hup))
          clear hin
          generalize at0 l j = x at c0 hup
          generalize at0 l (j + 1) = y at c1 HC hup
          go_wp2_with fail
          refine (HC.out _).mono ?_
          rintro e w1 ⟨rfl, rfl⟩
          go_wp2
          go_round
          case rel => exact ⟨j + 1 + 1, by omega, by go_num, HI⟩
          case measure => simp [intOf]; omega
        · have HG := Lib.hid (goodR_flat hlt (by omega))
          clear hin
          generalize at0 l j = x at c0 hup
          generalize at0 l (j + 1) = y at c1 HC hup
          go_wp2_with fail
          refine (HC.out _).mono ?_
          rintro e w1 ⟨rfl, rfl⟩
          go_wp2
          go_ret
          exact ⟨ret_bool HG.out.symm, rfl⟩
    · obtain rfl : k = l.length := by omega
      have HG := Lib.hid (upTo_all h20 hI.out)
      go_wp2
      go_ret
      exact ⟨ret_bool HG.out.symm, rfl⟩

theorem listM (ao : Option Addr) (cap : Nat) (l : List Int) (hn : l.length ≤ 1048576) (w : World) (h : IRow w w.heap.size ao l) :
    Calls Try.prog 18 #[.slice ao l.length cap] w fun e w' => e = .returned (.bool (goodR l)) ∧ w = w' := by
  have H := Lib.hid h
  clear h
  by_cases h20 : l.length ≤ 20
  · have HC := Lib.hid (fun W hW => risingM ao cap l h20 W hW)
    go_enter Try.func18, Try.ntmps18
    go_wp2_with fail
    refine (HC.out _ H.out).mono ?_
    rintro e w1 ⟨rfl, rfl⟩
    go_wp2
    go_ret
    exact ⟨rfl, rfl⟩
  · have HG := Lib.hid (goodR_len h20)
    go_enter Try.func18, Try.ntmps18
    go_wp2
    go_ret
    exact ⟨ret_bool HG.out.symm, rfl⟩

/-- What gathers the first k of a list: some of them, in a row of the call's own. -/
def Sifted (a b : List Int) (hs : Bool) (k : Nat) (w : World) (v : Value) (wr : World) : Prop :=
  wr.ownsRow w.heap.size 3 1 v (siftR (a.take k) b hs).length ((siftR (a.take k) b hs).map (Value.int .i64)) ∧ Below w.heap.size w wr
theorem Sifted.start (a b : List Int) (hs : Bool) (w : World) : Sifted a b hs 0 w (.slice none 0 0) w := ⟨World.ownsRow_nil _ _ _ _, Below.refl _ _⟩
theorem Sifted.skip {a b : List Int} {hs : Bool} {k : Nat} {w wr : World} {v : Value} (h : Sifted a b hs k w v wr) (hk : k < a.length) (hx : decide (at0 a k ∈ b) ≠ hs) : Sifted a b hs (k + 1) w v wr := by
  unfold Sifted; rw [sift_no hk hx]; exact h
theorem Sifted.take {a b : List Int} {hs : Bool} {k : Nat} {w wr w2 : World} {v v' : Value} {o : Obj} (h : Sifted a b hs k w v wr) (hk : k < a.length) (hx : decide (at0 a k ∈ b) = hs)
    (ho : w2.ownsRow w.heap.size 3 1 v' ((siftR (a.take k) b hs).length + 1) ((siftR (a.take k) b hs).map (Value.int .i64) ++ [.int .i64 (at0 a k)])) (hg : (wr.alloc o).grownBy w2 v.ownBlock) : Sifted a b hs (k + 1) w v' w2 := by
  unfold Sifted; rw [sift_yes hk hx, List.length_append, List.map_append]
  exact ⟨ho, own_grown (h.2.alloc h.2.size o) (h.1.alloc o) hg (Nat.le_refl _)⟩
theorem sift_short (a b : List Int) (hs : Bool) (k : Nat) : (siftR (a.take k) b hs).length ≤ a.length := Nat.le_trans (siftR_len _ _ _) (by rw [List.length_take]; omega)
/-- A list is answered, in memory of the call's own. -/
def LiEnd (l : List Int) (w : World) (e : Ending) (w' : World) : Prop :=
  (∃ (bo : Option Addr) (c : Nat), e = .returned (.slice bo l.length c) ∧ w'.ownsRow w.heap.size 3 1 (.slice bo l.length c) l.length (l.map (Value.int .i64))) ∧ Below w.heap.size w w'
theorem li_end {w w' : World} {l : List Int} {v : Value} (ho : w'.ownsRow w.heap.size 3 1 v l.length (l.map (Value.int .i64))) (h : Below w.heap.size w w') : LiEnd l w (.returned v) w' := by
  obtain ⟨ao, c, rfl⟩ := own_slice ho
  exact ⟨⟨ao, c, rfl, ho⟩, h⟩
theorem Sifted.done {a b : List Int} {hs : Bool} {w w' : World} {v : Value} (h : Sifted a b hs a.length w v w') : LiEnd (siftR a b hs) w (.returned v) w' := by
  unfold Sifted at h; rw [sift_all] at h; exact li_end h.1 h.2

set_option maxHeartbeats 2000000 in
set_option maxRecDepth 100000 in
theorem bothM (ao bo : Option Addr) (c d : Nat) (a b : List Int) (hn : a.length ≤ 1048576) (hm : b.length ≤ 1048576) (w : World) (ha : IRow w w.heap.size ao a) (hb : IRow w w.heap.size bo b) :
    Calls Try.prog 19 #[.slice ao a.length c, .slice bo b.length d] w (LiEnd (siftR a b true) w) := by
  have HA := Lib.hid ha; have HB := Lib.hid hb
  obtain ⟨i0, hi, hz0, hz1, hz2⟩ := info_parts Try.info3
  have HH := Lib.hid (fun x W hW => hasM bo d b x hm W hW)
  clear ha hb
  go_enter Try.func19, Try.ntmps19
  go_wp2
  go_loopw [5, 10] (fun v i wr => ∃ k : Nat, k ≤ a.length ∧ i = .int .i64 k ∧ Hid (Sifted a b true k w v wr)) (fun _ i _ => a.length - (intOf i).toNat)
  case atStart => exact ⟨0, Nat.zero_le _, rfl, Lib.hid (Sifted.start _ _ _ _)⟩
  case round =>
    obtain ⟨k, hk, rfl, hS⟩ := hrel
    by_cases hlt : k < a.length
    · have HRA := Lib.hid (HA.out.after hS.out.2); have HRB := Lib.hid (HB.out.after hS.out.2)
      obtain ⟨p, off, hao, hbl, hc⟩ := HRA.out.2 (by omega)
      subst hao
      have c1 := hc k hlt
      rw [← at0_get hlt] at c1
      have HC := Lib.hid (HH.out (at0 a k) _ HRB.out)
      clear hc
      by_cases hx : decide (at0 a k ∈ b) = true
      · have HT := Lib.hid (fun (w2 : World) (v' : Value) (o : Obj) ho hg => Sifted.take (w2 := w2) (v' := v') (o := o) hS.out hlt hx ho hg)
        have hl := sift_short a b true k
        have HO := Lib.hid hS.out.1
        have HSz := Lib.hid hS.out.2.size
        rw [hx] at HC
        clear hx
        generalize at0 a k = x at c1 HC HT
        generalize siftR (a.take k) b true = q at HT hl HO
        go_wp2_with fail
        refine HC.out.mono ?_
        rintro e w1 ⟨rfl, rfl⟩
        go_wp2_with (at_builtin; refine wpList_append_own _ rfl _ _ 24 rfl w.heap.size 3 i0 (.int .i64 0) 1 8 Try.underlying24 hi hz0 hz1 hz2 rfl (by decide) _ _ _ rfl (HO.out.alloc _) ⟨wr.heap.size, 0, none⟩ 1 1 [.int .i64 x] rfl rfl new_cell ?c2 ?c3 ?c4 ?c5 ?_)
        case c2 => intro u hu; simp at hu; subst hu; rfl
        case c3 => unfold maxLen; omega
        case c4 => omega
        case c5 => have h1 := HSz.out; simp; omega
        intro v' w4 hown' hgrow _
        have HR := Lib.hid (HT.out _ _ _ hown' hgrow)
        clear hown' hgrow
        go_wp2
        go_roundw
        case rel => exact ⟨k + 1, by omega, by go_num, HR⟩
        case measure => simp [intOf]; omega
      · have HR := Lib.hid (hS.out.skip hlt hx)
        have hxf : decide (at0 a k ∈ b) = false := by simpa using hx
        rw [hxf] at HC
        clear hx hxf
        generalize at0 a k = x at c1 HC
        go_wp2_with fail
        refine HC.out.mono ?_
        rintro e w1 ⟨rfl, rfl⟩
        go_wp2
        go_roundw
        case rel => exact ⟨k + 1, by omega, by go_num, HR⟩
        case measure => simp [intOf]; omega
    · obtain rfl : k = a.length := by omega
      have HE := Lib.hid (hS.out.done)
      clear hS
      go_wp2
      go_ret
      exact HE.out
end Go.Proofs.Ytgibjdmjemalcaa
