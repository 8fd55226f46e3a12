/- Contract of being of a form in the model (it calls itself), over this seat's translation: it answers likeS. -/
import Derived.Test.YtpbcgfgjdimpmaaDoorRule
import Derived.Laws.Strings2
namespace Go.Proofs.YtpbcgfgjdimpmaaDoor
open Go.RowKit Go.Deep

def likeS (f s : ByteArray) : Bool := like f.data.toList s.data.toList
theorem rest_data (s : ByteArray) (k : Nat) : (s.extract k s.size).data.toList = s.data.toList.drop k := by
  rw [Lib.extract_data, Lib.size_eq, List.take_of_length_le (by simp)]
theorem data_cons {s : ByteArray} (h : 0 < s.size) : s.data.toList = s[0] :: s.data.toList.drop 1 := by
  have h' : 0 < s.data.toList.length := by rw [← Lib.size_eq]; exact h
  have := List.drop_eq_getElem_cons (l := s.data.toList) (i := 0) h'
  rw [List.drop_zero] at this
  exact this
theorem data_nil {s : ByteArray} (h : s.size = 0) : s.data.toList = [] := by
  rw [← List.length_eq_zero_iff, ← Lib.size_eq]; exact h
theorem likeS_none {f s : ByteArray} (h : f.size = 0) : likeS f s = s.toList.isEmpty := by
  unfold likeS; rw [data_nil h, like, Lib.toList_data]
theorem likeS_short {f s : ByteArray} (hf : 0 < f.size) (h : f[0] ≠ 42) (hs : s.size = 0) : likeS f s = false := by
  unfold likeS; rw [data_cons hf, like_cons, if_neg h, data_nil hs]
theorem likeS_byte {f s : ByteArray} (hf : 0 < f.size) (h : f[0] ≠ 42) (hs : 0 < s.size) : likeS f s = (s[0] == f[0] && likeS (f.extract 1 f.size) (s.extract 1 s.size)) := by
  unfold likeS; rw [rest_data, rest_data, data_cons hf, like_cons, if_neg h, data_cons hs]; rfl
/-- No start up to k will do. -/
def NotYet (f s : ByteArray) (k : Nat) : Prop := ∀ j, j < k → likeS (f.extract 1 f.size) (s.extract j s.size) = false
theorem likeS_hit {f s : ByteArray} {k : Nat} (hf : 0 < f.size) (h : f[0] = 42) (_hk : k ≤ s.size) (hl : likeS (f.extract 1 f.size) (s.extract k s.size) = true) : likeS f s = true := by
  unfold likeS at hl ⊢
  rw [rest_data, rest_data] at hl
  rw [data_cons hf, h, like_star]
  exact ⟨_, _, (List.take_append_drop k _).symm, hl⟩
theorem likeS_miss {f s : ByteArray} (hf : 0 < f.size) (h : f[0] = 42) (hn : NotYet f s (s.size + 1)) : likeS f s = false := by
  rw [← Bool.not_eq_true]
  intro hl
  unfold likeS at hl
  rw [data_cons hf, h, like_cons, if_pos rfl, List.any_eq_true] at hl
  obtain ⟨k, hk, hl⟩ := hl
  rw [List.mem_range, ← Lib.size_eq] at hk
  have := hn k hk
  unfold likeS at this
  rw [rest_data, rest_data, hl] at this
  cases this
theorem notYet_succ {f s : ByteArray} {k : Nat} (h : NotYet f s k) (hl : likeS (f.extract 1 f.size) (s.extract k s.size) = false) : NotYet f s (k + 1) := fun j hj => by
  by_cases e : j = k
  · subst e; exact hl
  · exact h j (by omega)
theorem ext_size (s : ByteArray) (k : Nat) : (s.extract k s.size).size = s.size - k := by simp

theorem drew_more {w wr : World} (h : ∃ m, wr = w.drewN m) (q : Nat) : ∃ m, wr.drewN q = w.drewN m := by
  obtain ⟨m, rfl⟩ := h
  exact ⟨_, World.drewN_drewN ..⟩
def LikeEnd (f s : ByteArray) (w : World) (e : Ending) (w' : World) : Prop := e = .returned (.bool (likeS f s)) ∧ ∃ m, w' = w.drewN m

set_option maxHeartbeats 4000000 in
set_option maxRecDepth 100000 in
theorem like92 : ∀ (n : Nat) (f s : ByteArray), f.size ≤ n → n ≤ 1048576 → s.size ≤ 1048576 → ∀ w, Calls Tryd.prog 92 #[.string f, .string s] w fun e w' => e = .returned (.bool (likeS f s)) ∧ ∃ m, w' = w.drewN m
  | n, f, s, hn, hN, hs, w => by
    by_cases hf : 0 < f.size
    case neg =>
      have HL := Lib.hid (likeS_none (f := f) (s := s) (by omega))
      have he := empty_of (s := f) (by omega)
      go_enter Tryd.func92, Tryd.ntmps92
      go_wp2
      go_ret
      exact ⟨ret_bool HL.out.symm, 0, rfl⟩
    have hfe := nonempty_of hf
    obtain ⟨n, rfl⟩ : ∃ m, n = m + 1 := ⟨n - 1, by omega⟩
    have hI := Lib.hid (fun (t : ByteArray) (ht : t.size ≤ 1048576) w => like92 n (f.extract 1 f.size) t (by rw [ext_size]; omega) (by omega) ht w)
    by_cases h42 : f[0] = 42
    case neg =>
      have hq : (((f[0]).toNat : Int) != 42) = true := by
        rw [bne_iff_ne]; intro h; exact h42 (UInt8.toNat_inj.1 (by simpa using Int.ofNat.inj h))
      by_cases hz : 0 < s.size
      case neg =>
        have HL := Lib.hid (likeS_short hf h42 (by omega : s.size = 0))
        have he := empty_of (s := s) (by omega)
        clear h42
        go_enter Tryd.func92, Tryd.ntmps92
        go_wp2
        go_quiet (fail)
        go_wp2
        go_ret
        exact ⟨ret_bool HL.out.symm, _, rfl⟩
      have hse := nonempty_of hz
      have HL := Lib.hid (likeS_byte hf h42 hz)
      clear h42
      by_cases hb : s[0] = f[0]
      case neg =>
        have HF := Lib.hid (show likeS f s = false by rw [HL.out]; simp [hb])
        have hbq : (((s[0]).toNat : Int) == ((f[0]).toNat : Int)) = false := by
          rw [beq_eq_false_iff_ne]; intro h; exact hb (UInt8.toNat_inj.1 (by omega))
        clear hb
        go_enter Tryd.func92, Tryd.ntmps92
        go_wp2
        go_quiet (fail)
        go_wp2
        go_ret
        exact ⟨ret_bool HF.out.symm, _, rfl⟩
      have HF := Lib.hid (show likeS f s = likeS (f.extract 1 f.size) (s.extract 1 s.size) by rw [HL.out, hb]; simp)
      have hbq : (((s[0]).toNat : Int) == ((f[0]).toNat : Int)) = true := by rw [hb]; simp
      clear hb
      go_enter Tryd.func92, Tryd.ntmps92
      go_wp2
      go_quiet ((go_at_call 92; exact Calls.quiet_of (hI.out _ (by rw [ext_size]; omega) _)))
      go_wp2
      go_ret
      exact ⟨ret_bool HF.out.symm, _, rfl⟩
    have hq : (((f[0]).toNat : Int) != 42) = false := by rw [h42]; rfl
    have HH := Lib.hid (fun k hk hl => likeS_hit (s := s) (k := k) hf h42 hk hl)
    have HM := Lib.hid (fun hn => likeS_miss (s := s) hf h42 hn)
    clear h42
    go_enter Tryd.func92, Tryd.ntmps92
    go_wp2
    go_loopw [5] (fun i wr => ∃ k : Nat, k ≤ s.size + 1 ∧ i = .int .i64 k ∧ Hid (NotYet f s k) ∧ ∃ m, wr = w.drewN m) (fun i _ => s.size + 1 - (intOf i).toNat)
    case atStart => exact ⟨0, by omega, rfl, Lib.hid (fun j hj => absurd hj (by omega)), 0, rfl⟩
    case round =>
      obtain ⟨k, hk, rfl, hG, hW⟩ := hrel
      have HW := Lib.hid hW
      clear hW
      by_cases hlt : k ≤ s.size
      · have HC := Lib.hid (hI.out (s.extract k s.size) (by rw [ext_size]; omega))
        by_cases hl : likeS (f.extract 1 f.size) (s.extract k s.size) = true
        · have HR := Lib.hid (HH.out k hlt hl)
          replace HC := HC.out
          simp only [hl] at HC
          replace HC := Lib.hid HC
          go_wp2_with fail
          go_quiet ((go_at_call 92; exact Calls.quiet_of (HC.out _)))
          go_wp2
          go_ret
          exact ⟨ret_bool HR.out.symm, drew_more HW.out _⟩
        · have hl : likeS (f.extract 1 f.size) (s.extract k s.size) = false := by simpa using hl
          have HN := Lib.hid (notYet_succ hG.out hl)
          replace HC := HC.out
          simp only [hl] at HC
          replace HC := Lib.hid HC
          go_wp2_with fail
          go_quiet ((go_at_call 92; exact Calls.quiet_of (HC.out _)))
          go_wp2
          go_roundw
          case rel => exact ⟨k + 1, by omega, by go_num, HN, drew_more HW.out _⟩
          case measure => simp [intOf]; omega
      · obtain rfl : k = s.size + 1 := by omega
        have HR := Lib.hid (HM.out hG.out)
        go_wp2
        go_ret
        exact ⟨ret_bool HR.out.symm, HW.out⟩
termination_by n => n
end Go.Proofs.YtpbcgfgjdimpmaaDoor
