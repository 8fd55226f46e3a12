/- Contract of reading a matcher back in the program, over this seat's translation. -/
import Derived.Test.YtpbcgfgjdimpmaaDoorReadmMath
namespace Go.Proofs.YtpbcgfgjdimpmaaDoor
open Go.RowKit Go.Deep

/-- No kind up to k reads the text, with what is ahead of the quote and what is wanted behind it. -/
def NoneTo (s a want : ByteArray) (k : Nat) : Prop := ∀ j : Nat, 1 ≤ j → j < k → ∀ n : ByteArray, n.data.toList = Lib.trimSuffix a.data.toList (signL j) → ¬ ReadsM s.data.toList ((j : Int), n, want)
theorem noneTo_succ {s a want n : ByteArray} {k : Nat} (h : NoneTo s a want k) (hn : n.data.toList = Lib.trimSuffix a.data.toList (signL k)) (hr : ¬ ReadsM s.data.toList ((k : Int), n, want)) : NoneTo s a want (k + 1) := by
  intro j h1 h2 m hm
  by_cases e : j = k
  · subst e
    rw [data_inj (hm.trans hn.symm)]
    exact hr
  · exact h j h1 (by omega) m hm
theorem noneTo_end {s a want : ByteArray} (h : NoneTo s a want 5) (ha : a.data.toList = (Lib.cut s.data.toList [34]).1) (hw : want.data.toList = Lib.trimSuffix (Lib.cut s.data.toList [34]).2.1 [34]) : ∀ x, ¬ ReadsM s.data.toList x := by
  rintro ⟨k, n, v⟩ hx
  obtain ⟨h1, h2⟩ := readsM_cut hx
  obtain ⟨hk, _, _⟩ := mat_parts hx.1
  obtain ⟨g1, g4⟩ := kind_of hk
  obtain ⟨j, rfl⟩ : ∃ j : Nat, k = j := ⟨k.toNat, by omega⟩
  rw [h1] at ha
  rw [h2, trimSuf_self] at hw
  have hv := data_inj hw
  subst hv
  refine h j (by omega) (by omega) n ?_ hx
  rw [ha, trimSuf_self]
theorem readsM_of_text {s n want : ByteArray} {k : Int} (hg : matB (k, n, want) = true) (ht : ((mtextF k n want).toList == s.toList) = true) : ReadsM s.data.toList (k, n, want) := by
  refine ⟨hg, ?_⟩
  rw [mtextF_yes hg, Lib.toList_data, Lib.toList_data, beq_iff_eq] at ht
  exact ht
theorem readsM_not {s n want : ByteArray} {k : Int} (ht : ((mtextF k n want).toList == s.toList) = false) : ¬ ReadsM s.data.toList (k, n, want) := by
  rintro ⟨hg, h⟩
  rw [mtextF_yes hg, Lib.toList_data, Lib.toList_data, beq_eq_false_iff_ne] at ht
  exact ht h
theorem readsM_not2 {D : List UInt8} {n want : ByteArray} {k : Int} (hg : matB (k, n, want) = false) : ¬ ReadsM D (k, n, want) := by
  rintro ⟨h, _⟩
  rw [hg] at h; cases h
theorem trimSuf_size2 (a b : ByteArray) : (⟨(Lib.trimSuffix a.data.toList b.data.toList).toArray⟩ : ByteArray).size ≤ a.size := by
  rw [Lib.size_eq, Lib.size_eq]; exact trimSuf_size _ _
theorem cut1_size (s p : List UInt8) : (Lib.cut s p).1.length ≤ s.length := by
  unfold Lib.cut; split
  · simp only [List.length_take]; exact Nat.min_le_right _ _
  · exact Nat.le_refl _

/-- The result's own cells, kept. -/
theorem cellz {w wr : World} {a b c : Value} {t : TypeId} (h : Below (w.alloc (.cells #[a, b, c] t)).heap.size (w.alloc (.cells #[a, b, c] t)) wr) :
    wr.cell? ⟨w.heap.size, 0, none⟩ = some a ∧ wr.cell? ⟨w.heap.size, 1, none⟩ = some b ∧ wr.cell? ⟨w.heap.size, 2, none⟩ = some c ∧ wr.frozen? ⟨w.heap.size, 0, none⟩ = false ∧ wr.frozen? ⟨w.heap.size, 1, none⟩ = false ∧ wr.frozen? ⟨w.heap.size, 2, none⟩ = false := by
  have hb := h.block w.heap.size (by simp)
  have hx : wr.heap[w.heap.size]? = some (.cells #[a, b, c] t) := by
    rw [hb]
    show (w.heap.push _)[w.heap.size]? = _
    simp
  refine ⟨?_, ?_, ?_, ?_, ?_, ?_⟩
  · rw [h.cell (p := ⟨w.heap.size, 0, none⟩) (by simp)]; simp
  · rw [h.cell (p := ⟨w.heap.size, 1, none⟩) (by simp)]; simp
  · rw [h.cell (p := ⟨w.heap.size, 2, none⟩) (by simp)]; simp
  · simp [World.frozen?, hx]
  · simp [World.frozen?, hx]
  · simp [World.frozen?, hx]

set_option maxHeartbeats 8000000 in
set_option maxRecDepth 100000 in
theorem read48 (s : ByteArray) (hs : s.size ≤ 1048576) (w : World) (hT : Tabs w) (hM : MaxC w) : Calls Tryd.prog 48 #[.string s] w (ReadEndM s w) := by
  have HT := Lib.hid hT
  clear hT
  have HB0 := Lib.hid ((Below.refl w.heap.size w).alloc (Nat.le_refl _) (.cells #[.int .i64 0, .string ⟨#[]⟩, .string ⟨#[]⟩] 43))
  by_cases h100 : 100 < s.size
  · have HN := Lib.hid (show ∀ x, ¬ ReadsM s.data.toList x by rintro ⟨k, n, v⟩ h; have := readsM_size h; rw [← Lib.size_eq] at this; omega)
    go_enter Tryd.func48, Tryd.ntmps48
    go_wp2
    exact bodyPost_ret (v := .tuple #[matV 0 emp emp, .bool false]) (by simp [results, Tryd.results48, go_sem, emp]) rfl ⟨0, emp, emp, false, rfl, HB0.out, Or.inr ⟨rfl, ⟨rfl, rfl, rfl⟩, HN.out⟩⟩
  obtain ⟨m0, hm0⟩ := hM.below' HB0.out
  have HM0 := Lib.hid hm0
  clear hm0 hM
  go_enter Tryd.func48, Tryd.ntmps48
  go_wp2_with fail
  refine (Tryd.strings_Cut s ⟨#[34]⟩ m0 _ (by omega) HM0.out).mono ?_
  rintro e w1 ⟨rfl, q, rfl⟩
  obtain ⟨a, ha⟩ : ∃ a : ByteArray, a = ⟨(Lib.cut s.data.toList [34]).1.toArray⟩ := ⟨_, rfl⟩
  obtain ⟨rst, hr⟩ : ∃ a : ByteArray, a = ⟨(Lib.cut s.data.toList [34]).2.1.toArray⟩ := ⟨_, rfl⟩
  have HA := Lib.hid (show a.data.toList = (Lib.cut s.data.toList [34]).1 by rw [ha])
  have HR := Lib.hid (show rst.data.toList = (Lib.cut s.data.toList [34]).2.1 by rw [hr])
  have has : a.size ≤ 100 := by rw [Lib.size_eq, HA.out]; have := cut1_size s.data.toList [34]; rw [← Lib.size_eq] at this; omega
  have hrs : rst.size ≤ 100 := by rw [Lib.size_eq, HR.out]; have := cut_size s.data.toList [34]; rw [← Lib.size_eq] at this; omega
  rw [← ha, ← hr]
  clear ha hr
  generalize (Lib.cut s.data.toList (ByteArray.mk #[34]).data.toList).2.2 = fnd
  have HB1 := Lib.hid (below_drewN (Below.refl (w.alloc (.cells #[.int .i64 0, .string ⟨#[]⟩, .string ⟨#[]⟩] 43)).heap.size (w.alloc (.cells #[.int .i64 0, .string ⟨#[]⟩, .string ⟨#[]⟩] 43))) q)
  go_wp2_with fail
  refine (Tryd.strings_TrimSuffix rst ⟨#[34]⟩ _ (by omega)).mono ?_
  rintro e w2 ⟨rfl, rfl⟩
  obtain ⟨want, hw⟩ : ∃ a : ByteArray, a = ⟨(Lib.trimSuffix rst.data.toList [34]).toArray⟩ := ⟨_, rfl⟩
  have HW := Lib.hid (show want.data.toList = Lib.trimSuffix (Lib.cut s.data.toList [34]).2.1 [34] by rw [hw, ← HR.out])
  have hws : want.size ≤ 100 := by rw [hw]; exact Nat.le_trans (trimSuf_size2 rst ⟨#[34]⟩) hrs
  rw [← hw]
  clear hw
  go_wp2_with fail
  generalize (w.alloc (.cells #[.int .i64 0, .string ⟨#[]⟩, .string ⟨#[]⟩] 43)).drewN q = w3 at HB1 ⊢
  go_loopw [8] (fun i wr => ∃ k : Nat, 1 ≤ k ∧ k ≤ 5 ∧ i = .int .i64 k ∧ Hid (NoneTo s a want k) ∧ Hid (Below (w.alloc (.cells #[.int .i64 0, .string ⟨#[]⟩, .string ⟨#[]⟩] 43)).heap.size (w.alloc (.cells #[.int .i64 0, .string ⟨#[]⟩, .string ⟨#[]⟩] 43)) wr)) (fun i _ => 5 - (intOf i).toNat)
  case atStart => exact ⟨1, by omega, by omega, rfl, fun j h1 h2 => by omega, HB1⟩
  case round =>
    obtain ⟨k, hk1, hk5, rfl, hG, hb⟩ := hrel
    obtain ⟨z0, z1, z2, f0, f1, f2⟩ := cellz hb.out
    have HBw := Lib.hid (HB0.out.trans (hb.out.mono HB0.out.size))
    by_cases hlt : k < 5
    · go_wp2_with fail
      refine (rule86 k want _).mono ?_
      rintro e w4 ⟨rfl, rfl⟩
      go_wp2_with fail
      refine (sign93 k want _).mono ?_
      rintro e w4 ⟨rfl, rfl⟩
      go_wp2_with fail
      refine (Tryd.strings_TrimSuffix a (signB k) _ (by omega)).mono ?_
      rintro e w4 ⟨rfl, rfl⟩
      have hns := trimSuf_size2 a (signB k)
      obtain ⟨n, hn⟩ : ∃ n : ByteArray, n = ⟨(Lib.trimSuffix a.data.toList (signB k).data.toList).toArray⟩ := ⟨_, rfl⟩
      have HN := Lib.hid (show n.data.toList = Lib.trimSuffix a.data.toList (signL k) by rw [hn]; rfl)
      rw [← hn] at hns ⊢
      clear hn
      have HBx := Lib.hid (hb.out.alloc hb.out.size (.cells #[.int .i64 k, .string n, .string want] 43))
      have HBy := Lib.hid (HBw.out.alloc HBw.out.size (.cells #[.int .i64 k, .string n, .string want] 43))
      go_wp2_with fail
      refine (mtext46 k n want _ (HT.out.below' HBy.out)).mono ?_
      rintro e w5 ⟨rfl, hb5⟩
      obtain ⟨b0, b1, b2⟩ := box3_cells hb5
      have HBx5 := Lib.hid (HBx.out.trans (hb5.mono HBx.out.size))
      have HBy5 := Lib.hid (HBy.out.trans (hb5.mono HBy.out.size))
      clear hb5 z0 z1 z2 f0 f1 f2
      obtain ⟨z0, z1, z2, f0, f1, f2⟩ := cellz HBx5.out
      by_cases hg : matB ((k : Int), n, want) = true
      case neg =>
        have hg : matB ((k : Int), n, want) = false := by simpa using hg
        have HX := Lib.hid (noneTo_succ hG.out HN.out (readsM_not2 hg))
        go_wp2
        go_roundw
        case rel => exact ⟨k + 1, by omega, by omega, by go_num, HX, HBx5⟩
        case measure => simp [intOf]; omega
      by_cases ht : ((mtextF k n want).toList == s.toList) = true
      case neg =>
        have ht : ((mtextF k n want).toList == s.toList) = false := by simpa using ht
        have HX := Lib.hid (noneTo_succ hG.out HN.out (readsM_not ht))
        go_wp2
        go_roundw
        case rel => exact ⟨k + 1, by omega, by omega, by go_num, HX, HBx5⟩
        case measure => simp [intOf]; omega
      have HX := Lib.hid (readsM_of_text hg ht)
      have hbs := HBy5.out
      go_wp2
      exact bodyPost_ret (v := .tuple #[matV k n want, .bool true]) (by simp [results, Tryd.results48, go_sem, z0, z1, z2]) rfl ⟨k, n, want, true, rfl, ((hbs.setCell (Nat.le_refl _) _).setCell (Nat.le_refl _) _).setCell (Nat.le_refl _) _, Or.inl ⟨rfl, HX.out⟩⟩
    · obtain rfl : k = 5 := by omega
      have HN := Lib.hid (noneTo_end hG.out HA.out HW.out)
      have hbs := HBw.out
      go_wp2
      exact bodyPost_ret (v := .tuple #[matV 0 emp emp, .bool false]) (by simp [results, Tryd.results48, go_sem, emp, z0, z1, z2]) rfl ⟨0, emp, emp, false, rfl, ((hbs.setCell (Nat.le_refl _) _).setCell (Nat.le_refl _) _).setCell (Nat.le_refl _) _, Or.inr ⟨rfl, ⟨rfl, rfl, rfl⟩, HN.out⟩⟩
end Go.Proofs.YtpbcgfgjdimpmaaDoor
