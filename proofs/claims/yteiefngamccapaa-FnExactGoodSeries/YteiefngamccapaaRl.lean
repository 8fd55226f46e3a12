/- Contracts of ReadList, in the model and in the program, over this seat's translation: the list of which the text is PutList, or that there is none. -/
import Derived.Test.YteiefngamccapaaTk
import Derived.Test.YteiefngamccapaaPi
namespace Go.Proofs.Yteiefngamccapaa
open Go.RowKit Go.Deep

/-- A text of at most 400 bytes that tells numbers. -/
def TR (s : ByteArray) (us : List Nat) : Prop := s.size ≤ 400 ∧ Told s.data.toList us
def RlEnd (s : ByteArray) (w : World) (e : Ending) (w' : World) : Prop :=
  ((e = .returned (.tuple #[.slice none 0 0, .bool false]) ∧ ∀ us, ¬ TR s us) ∨
    (∃ (us : List Nat) (bo : Option Addr) (c : Nat), TR s us ∧ e = .returned (.tuple #[.slice bo us.length c, .bool true]) ∧ Row w' bo us.length c (at0 (decode us)) w.heap.size)) ∧ Below w.heap.size w w'

theorem acc_st {z : Nat → Int} (hz : ∀ i, In64 (z i)) : ∀ i, accF z 1 i = stF z (i + 1)
  | 0 => by
    rw [accF, stF_succ, stF_zero, Int.zero_add, Nat.zero_add]
    exact (w64_id (hz 1)).symm
  | i + 1 => by rw [accF_succ, acc_st hz i, stF_succ z (i + 1), ← w64_eq, Int.add_comm, show 1 + (i + 1) = i + 1 + 1 by omega]
theorem acc_la {z s : Nat → Int} {m : Nat} (h0 : s 0 = z 0) (hs : ∀ i, 0 < i → i < m → s i = stF z i) : ∀ i, i < m → accF s 0 i = laF z i
  | 0, _ => by rw [accF, laF_zero, h0]
  | i + 1, hi => by rw [accF_succ, acc_la h0 hs i (by omega), laF_succ, ← w64_eq, Nat.zero_add, hs (i + 1) (by omega) hi, Int.add_comm]
theorem sum_la {us : List Nat} (h : Fit64 us) {i : Nat} (hi : i < us.length) : sumF (sumF (zagL us) 1 (us.length - 1)) 0 us.length i = at0 (decode us) i := by
  have e : at0 (decode us) i = laF (zagL us) i := by unfold at0 decode; rw [getD_range_map _ _ _ _ hi]
  rw [e]
  have h0 : sumF (zagL us) 1 (us.length - 1) 0 = zagL us 0 := by unfold sumF; rw [if_neg (by omega)]
  have hs : ∀ j, 0 < j → j < us.length → sumF (zagL us) 1 (us.length - 1) j = stF (zagL us) j := fun j h1 h2 => by
    unfold sumF
    rw [if_pos ⟨by omega, by omega⟩, acc_st (zagL_in h), show j - 1 + 1 = j by omega]
  generalize sumF (zagL us) 1 (us.length - 1) = q at h0 hs
  unfold sumF
  rw [if_pos ⟨by omega, by omega⟩, Nat.sub_zero]
  exact acc_la h0 hs i hi

theorem zero_block (w : World) (C : Array Value) (hC : C = Array.replicate 60 (.int .i64 0)) : RF (w.alloc (.cells C 153)) w.heap.size 153 60 60 (fun _ => 0) := by
  subst hC
  refine ⟨Nat.le_refl _, fun _ => .int .i64 0, fun _ _ => rfl, Array.replicate 60 (.int .i64 0), blk_alloc_new _ _, by simp, fun i hi => by simp [hi]⟩
theorem put_zag (us : List Nat) (u j : Nat) : (if j = us.length then zagI u else if j < us.length then zagL us j else 0) = if j < (us ++ [u]).length then zagL (us ++ [u]) j else 0 := by
  rw [List.length_append, List.length_singleton]
  by_cases e : j = us.length
  · subst e
    rw [if_pos rfl, if_pos (by omega), zagL_end]
  · rw [if_neg e]
    by_cases h : j < us.length
    · rw [if_pos h, if_pos (by omega), zagL_pre us u h]
    · rw [if_neg h, if_neg (by omega)]

/-- What the reader at the front of a text answers. -/
def FrontP (D : List UInt8) (w : World) (e : Ending) (w' : World) : Prop :=
  ((e = .returned (.tuple #[.slice none 0 0, .int .i64 0, .bool false]) ∧ ∀ us, ¬ Fr D us) ∨
    (∃ (us : List Nat) (a : Nat) (bo : Option Addr) (c : Nat), At D us.length us a ∧ us.length ≤ 60 ∧ e = .returned (.tuple #[.slice bo us.length c, .int .i64 a, .bool true]) ∧ Row w' bo us.length c (at0 (decode us)) w.heap.size)) ∧ Below w.heap.size w w'

set_option maxHeartbeats 4000000 in
set_option maxRecDepth 100000 in
theorem front71 (s : ByteArray) (hs : s.size ≤ 1048576) (w : World) : Calls Try.prog 112 #[.string s] w (FrontP s.data.toList w) := by
  have hlen : s.data.toList.length = s.size := rfl
  obtain ⟨D, hD⟩ : ∃ D, D = s.data.toList := ⟨_, rfl⟩
  have HR38 := Lib.hid (fun a ha W => read38 s a hs ha W)
  rw [← hD] at HR38 hlen ⊢
  clear hD
  go_enter Try.func112, Try.ntmps112
  go_wp2_with fail
  refine (HR38.out 0 (by omega) _).mono ?_
  rintro e w1 ⟨⟨hn, rfl⟩ | ⟨m, hm, rfl⟩, hb1⟩
  · have HN : Hid (∀ us, ¬ Fr D us) := Lib.hid (fr_first (D := D) (by simpa using hn))
    have HB1 := Lib.hid hb1
    clear hn hb1
    go_wp2
    go_ret3
    exact ⟨.inl ⟨rfl, HN.out⟩, HB1.out⟩
  rw [List.drop_zero] at hm
  have HB1 := Lib.hid hb1
  by_cases h60 : m ≤ 60
  case neg =>
    have HN : Hid (∀ us, ¬ Fr D us) := Lib.hid (fr_many hm (by omega))
    obtain ⟨p, hp⟩ : ∃ p : Nat, p = (putV m).length := ⟨_, rfl⟩
    rw [← hp]
    clear hb1 hm hp
    go_wp2
    go_ret3
    exact ⟨.inl ⟨rfl, HN.out⟩, HB1.out⟩
  have HAT := Lib.hid (at_first (readV_is hm))
  obtain ⟨p, hp⟩ : ∃ p : Nat, p = 0 + (putV m).length := ⟨_, rfl⟩
  rw [← hp]
  rw [Nat.zero_add] at hp
  rw [← hp] at HAT
  clear hb1 hm hp
  go_wp2
  go_loopw [6, 31] (fun ap i wr => ∃ (us : List Nat) (a : Nat), us.length ≤ m ∧ ap = .int .i64 a ∧ i = .int .i64 us.length ∧ Hid (At D m us a) ∧ Hid (RF wr w1.heap.size 153 60 60 (fun j => if j < us.length then zagL us j else 0)) ∧ Hid (Below w.heap.size w wr)) (fun _ i _ => m - (intOf i).toNat)
  case atStart => exact ⟨[], p, Nat.zero_le _, rfl, rfl, HAT, Lib.hid ((zero_block w1 _ rfl).congr fun i _ => by simp), Lib.hid (HB1.out.alloc HB1.out.size _)⟩
  case round =>
    obtain ⟨us, a, hle, rfl, rfl, hA, hR, hB⟩ := hrel
    have hal := at_le hA.out
    by_cases hlt : us.length < m
    · go_wp2_with fail
      refine (HR38.out a (by omega) _).mono ?_
      rintro e w2 ⟨⟨hn, rfl⟩ | ⟨u, hu, rfl⟩, hb2⟩
      · have HN : Hid (∀ us, ¬ Fr D us) := Lib.hid (fr_none hA.out hlt hn)
        have HB2 := Lib.hid (hB.out.trans (hb2.mono hB.out.size))
        clear hn hb2
        go_wp2
        go_ret3
        exact ⟨.inl ⟨rfl, HN.out⟩, HB2.out⟩
      have hst := readV_is hu
      have HA2 := Lib.hid (at_next hA.out hst)
      have hR2 := hR.out.below hb2
      have hto := hR2.cell (i := us.length) (by omega)
      have hfz := hR2.frozen us.length
      have HR2 := Lib.hid ((hR2.set us.length (zagI u)).congr (f' := fun j => if j < (us ++ [u]).length then zagL (us ++ [u]) j else 0) (fun j _ => put_zag us u j))
      have HZ := Lib.hid (fun W => zag21 u hst.1 W)
      have HB2 := Lib.hid ((hB.out.trans (hb2.mono hB.out.size)).setCell (p := ⟨w1.heap.size, us.length, none⟩) HB1.out.size (.int .i64 (zagI u)))
      have HL0 : Hid ((us ++ [u]).length = us.length + 1) := Lib.hid (by simp)
      obtain ⟨E, hE⟩ : ∃ E : Nat, E = a + (putV u).length := ⟨_, rfl⟩
      rw [← hE] at HA2 ⊢
      clear hu hb2 hst hE hR2 hA hR hB
      generalize zagI u = x at HZ HR2 HB2
      go_wp2_with fail
      refine (HZ.out _).mono ?_
      rintro e w3 ⟨rfl, rfl⟩
      go_wp2
      go_roundw
      case rel => exact ⟨us ++ [u], E, by rw [HL0.out]; omega, by go_num, by rw [HL0.out]; go_num, HA2, HR2, HB2⟩
      case measure => simp [intOf]; omega
    · have hm : us.length = m := by omega
      subst hm
      have HFit := Lib.hid hA.out.2.2
      have HW : Hid (Row wr (some ⟨w1.heap.size, 0, none⟩) us.length us.length (zagL us) w.heap.size) := Lib.hid ⟨Nat.le_refl _, fun _ => ⟨w1.heap.size, 153, 60, rfl, HB1.out.size, (hR.out.less h60).congr fun i hi => by rw [if_pos hi]⟩⟩
      have HSum := Lib.hid (fun i hi => sum_la (us := us) HFit.out (i := i) hi)
      clear hR
      go_wp2_with fail
      refine (behindAll49 _ us.length us.length _ _ _ HW.out).mono ?_
      rintro e w4 ⟨⟨v4, rfl, ht⟩, rfl⟩
      have HTl := Lib.hid ht
      clear ht
      go_wp2_with fail
      refine (tail54 _ us.length us.length _ _ v4 h60 _ HW.out HTl.out).mono ?_
      rintro e w5 ⟨⟨r5, rfl⟩, hR5, hb5⟩
      have HR5 := Lib.hid hR5; have HB5 := Lib.hid (hB.out.trans hb5)
      clear hR5 hb5
      go_wp2_with fail
      refine (fromAll54 _ us.length us.length _ _ h60 _ HR5.out).mono ?_
      rintro e w6 ⟨⟨r6, rfl⟩, hR6, hb6⟩
      have HR6 := Lib.hid (hR6.congr HSum.out); have HB6 := Lib.hid (HB5.out.trans hb6)
      clear hR6 hb6
      go_wp2
      go_ret3
      exact ⟨.inr ⟨us, a, _, _, hA.out, h60, rfl, HR6.out⟩, HB6.out⟩

end Go.Proofs.Yteiefngamccapaa
