/- Mathematics of what is in both, in the first alone, in either, put together again. No program is spoken of. -/
import Derived.Test.YtgibjdmjemalcaaSo7
namespace Go.Proofs.Ytgibjdmjemalcaa

theorem sift_swap {a b : List Int} (ha : upR a) (hb : upR b) : siftR b a true = siftR a b true :=
  upR_ext (upR_filter _ hb) (upR_filter _ ha) fun x => by
    rw [siftR_mem, siftR_mem]
    simp only [decide_eq_true_eq]
    exact ⟨fun h => ⟨h.2, h.1⟩, fun h => ⟨h.2, h.1⟩⟩
theorem eith_parts {a b : List Int} (ha : upR a) : eithR (siftR a b false) (siftR a b true) = a :=
  upR_ext (upR_eith (upR_filter _ ha)) ha fun x => by
    rw [eithR_mem, siftR_mem, siftR_mem]
    constructor
    · rintro (h | h) <;> exact h.1
    · intro h
      cases e : decide (x ∈ b) with
      | true => exact .inr ⟨h, rfl⟩
      | false => exact .inl ⟨h, rfl⟩
theorem sift_parts (a b : List Int) : (siftR a b true).length + (siftR a b false).length = a.length := by
  induction a with
  | nil => rfl
  | cons x a ih =>
    unfold siftR at *
    rw [List.filter_cons, List.filter_cons, List.length_cons]
    cases decide (x ∈ b) <;> simp <;> simp at ih <;> omega
theorem eith_len {a b : List Int} (ha : upR a) (hb : upR b) : (eithR a b).length = a.length + (siftR b a false).length := by
  rw [← srt_eith ha hb, srt_len, List.length_append]
theorem okR_is {a b : List Int} (h : okR a b = true) : GoodR a ∧ GoodR b := by
  unfold okR at h
  rw [Bool.and_eq_true] at h
  exact ⟨goodR_is h.1, goodR_is h.2⟩
theorem okE_is {a b : List Int} (h : okE a b = true) : okR a b = true ∧ (eithR a b).length ≤ 20 := by
  unfold okE at h
  rw [Bool.and_eq_true, decide_eq_true_eq] at h
  exact h
theorem okR_swap {a b : List Int} (h : okR a b = true) : okR b a = true := by
  obtain ⟨h1, h2⟩ := okR_is h
  exact okR_ab (goodR_yes h2) (goodR_yes h1)
/-- What the law asks where both lists are good. -/
theorem sets_all {a b : List Int} (h : okR a b = true) (h2 : okE a b = true) :
    okR b a = true ∧ bothL b a = bothL a b ∧ okE (lessL a b) (bothL a b) = true ∧ eithL (lessL a b) (bothL a b) = a ∧ (bothL a b).length + (lessL a b).length + (lessL b a).length = (eithL a b).length := by
  obtain ⟨ga, gb⟩ := okR_is h
  have hs := okR_swap h
  have hd := good_sift b false ga
  have hi := good_sift b true ga
  have hk : okE (siftR a b false) (siftR a b true) = true := okE_yes (okR_ab (goodR_yes hd) (goodR_yes hi)) (by rw [eith_parts ga.2.2]; exact ga.1)
  refine ⟨hs, ?_, ?_, ?_, ?_⟩
  · rw [bothL_yes hs, bothL_yes h]; exact sift_swap ga.2.2 gb.2.2
  · rw [lessL_yes h, bothL_yes h]; exact hk
  · rw [lessL_yes h, bothL_yes h, eithL_yes hk]; exact eith_parts ga.2.2
  · rw [lessL_yes h, bothL_yes h, lessL_yes hs, eithL_yes h2, eith_len ga.2.2 gb.2.2, ← sift_parts a b]
end Go.Proofs.Ytgibjdmjemalcaa
