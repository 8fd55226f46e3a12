/- Contracts of the hash of labels, in the program and in the model, over this seat's translation: both sides answer hashF. -/
import Derived.Test.YtpbcgfgjdimpmaaDoorTexti
namespace Go.Proofs.YtpbcgfgjdimpmaaDoor
open Go.RowKit Go.Deep

def hashN (bs : List UInt8) : Nat := bs.foldl (fun n c => (31 * n + c.toNat) % 1009) 7
theorem hashN_lt (bs : List UInt8) : hashN bs < 1009 := by
  unfold hashN
  have h : ∀ (bs : List UInt8) (n : Nat), n < 1009 → bs.foldl (fun n c => (31 * n + c.toNat) % 1009) n < 1009 := by
    intro bs
    induction bs with
    | nil => intro n hn; exact hn
    | cons c bs ih => intro n hn; exact ih _ (Nat.mod_lt _ (by omega))
  exact h bs 7 (by omega)
theorem hashN_step (s : ByteArray) {k : Nat} (hk : k < s.size) : hashN (s.data.toList.take (k + 1)) = (31 * hashN (s.data.toList.take k) + (s[k]'hk).toNat) % 1009 := by
  unfold hashN
  rw [List.take_succ_eq_append_getElem (by simpa using hk), List.foldl_append]
  rfl

theorem mem_name {s : ByteArray} (h : nameB s = true) {c : UInt8} (hc : c ∈ s.data.toList) : c.toNat < 128 := by
  unfold nameB at h
  simp only [Bool.and_eq_true, allB, List.all_eq_true] at h
  have := h.2 c hc
  cases hlt : decide (c.toNat < 128) with
  | true => simpa using hlt
  | false => rw [inName_high (by simpa using hlt)] at this; cases this
theorem mem_word {s : ByteArray} (h : wordB s = true) {c : UInt8} (hc : c ∈ s.data.toList) : c.toNat < 128 := by
  unfold wordB at h
  simp only [Bool.and_eq_true, allB, List.all_eq_true] at h
  have := h.2 c hc
  cases hlt : decide (c.toNat < 128) with
  | true => simpa using hlt
  | false => rw [inWord_high (by simpa using hlt)] at this; cases this
theorem labT_low {x : Lab} (h : labB x = true) {c : UInt8} (hc : c ∈ labT x) : c.toNat < 128 := by
  have h2 := (labB_iff x).1 h
  simp only [labT, List.mem_append, List.mem_cons, List.mem_nil_iff, or_false] at hc
  rcases hc with ((hc | rfl | rfl) | hc) | rfl
  · exact mem_name h2.1 hc
  · decide
  · decide
  · exact mem_word h2.2.1 hc
  · decide
theorem headT_low {l : List Lab} (hg : goodB l = true) : ∀ k, k ≤ l.length → ∀ c ∈ headT (l.take k), c.toNat < 128 := by
  intro k
  induction k with
  | zero => intro _ c hc; simp [headT, Lib.join_nil] at hc; subst hc; decide
  | succ k ih =>
    intro hk c hc
    have hlab := (((goodB_iff l).1 hg).2 k (by omega) (by omega)).1
    cases k with
    | zero =>
      rw [headT_first (by omega)] at hc
      rcases List.mem_cons.1 hc with rfl | hc
      · decide
      · exact labT_low hlab hc
    | succ k =>
      rw [headT_next (by omega)] at hc
      simp only [List.mem_append, List.mem_singleton] at hc
      rcases hc with (hc | rfl) | hc
      · exact ih (by omega) c hc
      · decide
      · exact labT_low hlab hc
theorem textS_low {l : List Lab} (hg : goodB l = true) {k : Nat} (hk : k < (textS l).size) : ((textS l)[k]'hk).toNat < 128 := by
  have hm : (textS l)[k]'hk ∈ textL l := by
    have h1 : (textS l)[k]'hk ∈ (textS l).data := Array.getElem_mem (xs := (textS l).data) hk
    have h2 := Array.mem_toList_iff.2 h1
    simpa [textS] using h2
  unfold textL at hm
  rcases List.mem_append.1 hm with h | h
  · have := headT_low hg l.length (Nat.le_refl _)
    rw [List.take_length] at this
    exact this _ h
  · simp at h; rw [h]; decide
theorem textS_size {l : List Lab} (hg : goodB l = true) : (textS l).size ≤ 200 := by
  have := join_len hg
  rw [size_len]
  simp [textS, textL, headT]
  omega

def hashF (l : List Lab) : Int := bif goodB l then (hashN (textL l) : Int) else 0
theorem hashF_no {l : List Lab} (h : goodB l = false) : hashF l = 0 := by simp [hashF, h]
theorem hashF_yes {l : List Lab} (h : goodB l = true) : hashF l = (hashN (textL l) : Int) := by simp [hashF, h]
theorem textS_take (l : List Lab) : (textS l).data.toList.take (textS l).size = textL l := by
  rw [size_len, List.take_length]
  simp [textS]

set_option maxHeartbeats 2000000 in
theorem hash76 (ao : Option Addr) (cap : Nat) (l : List Lab) (hg : goodB l = true) (w : World) (h : LRow w w.heap.size ao l) :
    Calls Tryd.prog 67 #[.slice ao l.length cap] w fun e w' => e = .returned (.int .i64 (hashN (textL l))) ∧ Below w.heap.size w w' := by
  have H := Lib.hid h
  have hsz := textS_size hg
  have HT := Lib.hid (textS_take l)
  have HG := Lib.hid hg
  clear h hg
  go_enter Tryd.func67, Tryd.ntmps67
  go_wp2_with fail
  refine (text75 ao cap l HG.out _ H.out).mono ?_
  rintro e w1 ⟨rfl, hb⟩
  have HB := Lib.hid hb
  clear hb
  generalize textS l = s at hsz HT
  go_wp2
  go_loop [3, 5] (fun q i => ∃ k : Nat, k ≤ s.size ∧ i = .int .i64 k ∧ q = .int .i64 (hashN (s.data.toList.take k))) (fun _ i => s.size - (intOf i).toNat)
  case atStart => exact ⟨0, Nat.zero_le _, rfl, rfl⟩
  case round =>
    obtain ⟨k, hk, rfl, rfl⟩ := hrel
    have hlt' := hashN_lt (s.data.toList.take k)
    by_cases hlt : k < s.size
    · have HS := Lib.hid (hashN_step s hlt)
      have hby := (s[k]'hlt).toNat_lt
      generalize hashN (s.data.toList.take k) = q at hlt' HS
      go_wp2
      go_round
      case rel => exact ⟨k + 1, by omega, by go_num, by rw [HS.out]; go_num⟩
      case measure => simp [intOf]; omega
    · obtain rfl : k = s.size := by omega
      go_wp2
      go_ret
      exact ⟨by rw [← HT.out]; rfl, HB.out⟩

theorem hash33 (ao : Option Addr) (cap : Nat) (l : List Lab) (hF : Fit l) (w : World) (h : LRow w w.heap.size ao l) :
    Calls Tryd.prog 19 #[.slice ao l.length cap] w fun e w' => e = .returned (.tuple #[.int .i64 (hashF l), .bool (goodB l)]) ∧ Below w.heap.size w w' := by
  have H := Lib.hid h
  clear h
  go_enter Tryd.func19, Tryd.ntmps19
  go_wp2_with fail
  refine (good68 ao cap l hF _ H.out).mono ?_
  rintro e w1 ⟨rfl, hb⟩
  have HB := Lib.hid hb
  clear hb
  by_cases hg : goodB l = true
  case neg =>
    have hg : goodB l = false := by simpa using hg
    have HI := Lib.hid (hashF_no hg)
    have HG := Lib.hid hg
    go_wp2
    go_ret2
    exact ⟨ret_intb HI.out.symm HG.out.symm, HB.out⟩
  have HI := Lib.hid (hashF_yes hg)
  have HG := Lib.hid hg
  go_wp2_with fail
  refine (hash76 ao cap l HG.out _ (H.out.after HB.out)).mono ?_
  rintro e w2 ⟨rfl, hb2⟩
  have HB2 := Lib.hid (HB.out.trans (hb2.mono HB.out.size))
  clear hb2
  go_wp2
  go_ret2
  exact ⟨ret_intb HI.out.symm HG.out.symm, HB2.out⟩

/-- Where a loop over a text stands: its iterator, and the old memory. -/
def ItAt (s : ByteArray) (w : World) (B pos : Nat) (wr : World) : Prop := wr.heap[B]? = some (.stringIter s pos) ∧ Below w.heap.size w wr
theorem ItAt.next {s : ByteArray} {w wr : World} {B pos q : Nat} (h : ItAt s w B pos wr) (hB : w.heap.size ≤ B) : ItAt s w B q (wr.iterAt B s q) :=
  ⟨Lib.iterAt_heap wr B s pos q h.1, Lib.below_iterAt h.2 hB s q⟩
theorem ItAt.pos {s : ByteArray} {w wr : World} {B pos : Nat} (h : ItAt s w B pos wr) : wr.iterPos B = pos := by simp [World.iterPos, h.1]

set_option maxHeartbeats 2000000 in
theorem hash32 (ao : Option Addr) (cap : Nat) (l : List Lab) (hn : l.length ≤ 1048576) (w : World) (hT : Tabs w) (h : LRow w w.heap.size ao l) :
    Calls Tryd.prog 18 #[.slice ao l.length cap] w fun e w' => e = .returned (.tuple #[.int .i64 (hashF l), .bool (goodB l)]) ∧ Below w.heap.size w w' := by
  have H := Lib.hid h
  clear h
  go_enter Tryd.func18, Tryd.ntmps18
  go_wp2_with fail
  refine (text30 ao cap l hn _ hT H.out).mono ?_
  rintro e w1 ⟨rfl, hb⟩
  have HB := Lib.hid hb
  clear hb
  by_cases hg : goodB l = true
  case neg =>
    have hg : goodB l = false := by simpa using hg
    have HI := Lib.hid (hashF_no hg)
    have HG := Lib.hid hg
    go_wp2
    go_ret2
    exact ⟨ret_intb HI.out.symm HG.out.symm, HB.out⟩
  have HI := Lib.hid (hashF_yes hg)
  have HG := Lib.hid hg
  have hsz := textS_size hg
  have HL := Lib.hid (fun k (hk : k < (textS l).size) => textS_low hg hk)
  have HTk := Lib.hid (textS_take l)
  rw [txtF_yes hg]
  generalize textS l = s at hsz HL HTk
  go_wp2
  clear hg
  have hB := HB.out.size
  go_loopw [6, 8] (fun q _ wr => ∃ pos : Nat, pos ≤ s.size ∧ q = .int .i64 (hashN (s.data.toList.take pos)) ∧ Hid (ItAt s w w1.heap.size pos wr)) (fun _ _ wr => s.size - wr.iterPos w1.heap.size)
  case atStart => exact ⟨0, Nat.zero_le _, rfl, World.iter_heap w1 s 0, HB.out.alloc hB _⟩
  case round =>
    obtain ⟨pos, hp, rfl, hA⟩ := hrel
    have hlt' := hashN_lt (s.data.toList.take pos)
    by_cases hlt : pos < s.size
    · have hnx := fun ty => Lib.run_next_ascii_at (P := Tryd.prog) wr w1.heap.size s pos ty hA.out.1 hlt (HL.out pos hlt)
      have HS := Lib.hid (hashN_step s hlt)
      have HA := Lib.hid (hA.out.next (q := pos + 1) hB)
      have hby := (s[pos]'hlt).toNat_lt
      generalize hashN (s.data.toList.take pos) = q at hlt' HS
      go_wp2
      go_roundw
      case rel => exact ⟨pos + 1, by omega, by rw [HS.out]; go_num, HA⟩
      case measure => rw [HA.out.pos, hA.out.pos]; omega
    · have hnx := fun ty => Lib.run_next_end_at (P := Tryd.prog) wr w1.heap.size s pos ty hA.out.1 hlt
      obtain rfl : pos = s.size := by omega
      go_wp2
      go_ret2
      exact ⟨ret_intb (by rw [HI.out, ← HTk.out]) HG.out.symm, hA.out.2⟩
end Go.Proofs.YtpbcgfgjdimpmaaDoor
