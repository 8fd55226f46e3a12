/- How views lie in memory: rows of three cells, the third a slice of its own; whose blocks they are; the marks that they are given. Nothing of the program stands here. -/
import Derived.Test.YtabkjjbhnapgpaaGb
import Derived.Test.YtabkjjbhnapgpaaMkMath
namespace Go.Proofs.Ytabkjjbhnapgpaa
open Go.RowKit Go.Deep Go.ChangeShapes Go.WideShapes Go.ChangeAt

/-- A view: its numbers, and where its list lies. -/
structure Vw where
  id : Int
  top : Int
  ao : Option Addr
  cap : Nat
  xs : List Int
def Vw.con (v : Vw) : Vc := (v.id, v.top, v.xs)
def vC (v : Vw) : List Value := [.int .i64 v.id, .int .i64 v.top, .slice v.ao v.xs.length v.cap]
def rC (v : Vw) : List Value := [.int .i64 v.top, .slice v.ao v.xs.length v.cap, .int .i64 v.id]
theorem vC_len (v : Vw) : (vC v).length = 3 := rfl
theorem rC_len (v : Vw) : (rC v).length = 3 := rfl
/-- The slice (ao, n) holds the views g, in blocks below B. -/
def VF (f : Vw → List Value) (w : World) (B : Nat) (ao : Option Addr) (n : Nat) (g : Nat → Vw) : Prop :=
  (0 < n → ∃ b off, ao = some ⟨b, off, none⟩ ∧ b < B ∧ ∀ k, k < n → ∀ j v, (f (g k))[j]? = some v → w.cell? ⟨b, off + k * 3 + j, none⟩ = some v) ∧
  ∀ k, k < n → IRow w B (g k).ao (g k).xs
theorem VF.nil (f : Vw → List Value) (w : World) (B : Nat) (ao : Option Addr) (g : Nat → Vw) : VF f w B ao 0 g := ⟨fun h => absurd h (by simp), fun k hk => absurd hk (by omega)⟩
theorem VF.lt {f : Vw → List Value} {w : World} {B n : Nat} {ao : Option Addr} {g : Nat → Vw} (h : VF f w B ao n g) (hp : 0 < n) : blk ao < B := by
  obtain ⟨b, off, rfl, hl, _⟩ := h.1 hp
  exact hl
theorem VF.move {f : Vw → List Value} {w w' : World} {B B' n : Nat} {ao : Option Addr} {g : Nat → Vw} (h : VF f w B ao n g) (hB : B ≤ B') (hk : 0 < n → ∀ i, w'.cell? ⟨blk ao, i, none⟩ = w.cell? ⟨blk ao, i, none⟩)
    (hi : ∀ k, k < n → 0 < (g k).xs.length → ∀ i, w'.cell? ⟨blk (g k).ao, i, none⟩ = w.cell? ⟨blk (g k).ao, i, none⟩) : VF f w' B' ao n g :=
  ⟨fun hp => by
    obtain ⟨b, off, rfl, hl, hc⟩ := h.1 hp
    exact ⟨b, off, rfl, Nat.lt_of_lt_of_le hl hB, fun k hk' j v hv => (hk hp _).trans (hc k hk' j v hv)⟩, fun k hk' => (h.2 k hk').move hB (hi k hk')⟩
theorem VF.below {f : Vw → List Value} {w w' : World} {B B' n : Nat} {ao : Option Addr} {g : Nat → Vw} (h : VF f w B ao n g) (hB : B ≤ B') (hb : Below B w w') : VF f w' B' ao n g :=
  h.move hB (fun hp i => hb.cell (p := ⟨blk ao, i, none⟩) (h.lt hp)) (fun k hk hp i => hb.cell (p := ⟨blk (g k).ao, i, none⟩) ((h.2 k hk).lt hp))
theorem VF.after {f : Vw → List Value} {w w' : World} {n : Nat} {ao : Option Addr} {g : Nat → Vw} (h : VF f w w.heap.size ao n g) (hb : Below w.heap.size w w') : VF f w' w'.heap.size ao n g := h.below hb.size hb
theorem VF.more {f : Vw → List Value} {w : World} {B B' n : Nat} {ao : Option Addr} {g : Nat → Vw} (h : VF f w B ao n g) (hB : B ≤ B') : VF f w B' ao n g := h.move hB (fun _ _ => rfl) (fun _ _ _ _ => rfl)
theorem VF.oneV {w : World} {B n : Nat} {ao : Option Addr} {g : Nat → Vw} (h : VF vC w B ao n g) {k : Nat} (hk : k < n) : ∃ b off, ao = some ⟨b, off, none⟩ ∧ b < B ∧ w.cell? ⟨b, off + k * 3, none⟩ = some (.int .i64 (g k).id) ∧ w.cell? ⟨b, off + k * 3 + 1, none⟩ = some (.int .i64 (g k).top) ∧ w.cell? ⟨b, off + k * 3 + 2, none⟩ = some (.slice (g k).ao (g k).xs.length (g k).cap) := by
  obtain ⟨b, off, e, hl, hc⟩ := h.1 (by omega)
  exact ⟨b, off, e, hl, hc k hk 0 _ rfl, hc k hk 1 _ rfl, hc k hk 2 _ rfl⟩
theorem VF.oneR {w : World} {B n : Nat} {ao : Option Addr} {g : Nat → Vw} (h : VF rC w B ao n g) {k : Nat} (hk : k < n) : ∃ b off, ao = some ⟨b, off, none⟩ ∧ b < B ∧ w.cell? ⟨b, off + k * 3, none⟩ = some (.int .i64 (g k).top) ∧ w.cell? ⟨b, off + k * 3 + 1, none⟩ = some (.slice (g k).ao (g k).xs.length (g k).cap) ∧ w.cell? ⟨b, off + k * 3 + 2, none⟩ = some (.int .i64 (g k).id) := by
  obtain ⟨b, off, e, hl, hc⟩ := h.1 (by omega)
  exact ⟨b, off, e, hl, hc k hk 0 _ rfl, hc k hk 1 _ rfl, hc k hk 2 _ rfl⟩
theorem VF.congr {f : Vw → List Value} {w : World} {B n : Nat} {ao : Option Addr} {g g' : Nat → Vw} (h : VF f w B ao n g) (he : ∀ k, k < n → g k = g' k) : VF f w B ao n g' :=
  ⟨fun hp => by
    obtain ⟨b, off, e, hl, hc⟩ := h.1 hp
    exact ⟨b, off, e, hl, fun k hk j v hv => hc k hk j v (by rw [he k hk]; exact hv)⟩, fun k hk => by rw [← he k hk]; exact h.2 k hk⟩
/-- Whose blocks: all from lo on, none frozen, each list in one of its own. -/
def VD (w : World) (lo : Nat) (ao : Option Addr) (n : Nat) (g : Nat → Vw) : Prop :=
  (0 < n → lo ≤ blk ao ∧ ∀ i, w.frozen? ⟨blk ao, i, none⟩ = false) ∧
  (∀ k, k < n → 0 < (g k).xs.length → lo ≤ blk (g k).ao ∧ blk (g k).ao ≠ blk ao ∧ ∀ i, w.frozen? ⟨blk (g k).ao, i, none⟩ = false) ∧
  ∀ k t, k < n → t < n → k ≠ t → 0 < (g k).xs.length → 0 < (g t).xs.length → blk (g k).ao ≠ blk (g t).ao
def VS (ao : Option Addr) (n : Nat) (g : Nat → Vw) (i : Nat) : Prop := (0 < n ∧ i = blk ao) ∨ ∃ k, k < n ∧ 0 < (g k).xs.length ∧ i = blk (g k).ao
theorem VD.ge {w : World} {lo n : Nat} {ao : Option Addr} {g : Nat → Vw} (h : VD w lo ao n g) : ∀ i, VS ao n g i → lo ≤ i := by
  rintro i (⟨hp, rfl⟩ | ⟨k, hk, hp, rfl⟩)
  · exact (h.1 hp).1
  · exact (h.2.1 k hk hp).1
theorem VF.slt {f : Vw → List Value} {w : World} {B n : Nat} {ao : Option Addr} {g : Nat → Vw} (h : VF f w B ao n g) : ∀ i, VS ao n g i → i < B := by
  rintro i (⟨hp, rfl⟩ | ⟨k, hk, hp, rfl⟩)
  · exact h.lt hp
  · exact (h.2 k hk).lt hp
theorem VD.only {w w' : World} {S : Nat → Prop} {f : Vw → List Value} {lo n : Nat} {ao : Option Addr} {g : Nat → Vw} (h : VD w lo ao n g) (hv : VF f w w.heap.size ao n g) (ho : Only S w w') : VD w' lo ao n g :=
  ⟨fun hp => ⟨(h.1 hp).1, fun i => (ho.frozen _ (hv.lt hp)).trans ((h.1 hp).2 i)⟩, fun k hk hp => ⟨(h.2.1 k hk hp).1, (h.2.1 k hk hp).2.1, fun i => (ho.frozen _ ((hv.2 k hk).lt hp)).trans ((h.2.1 k hk hp).2.2 i)⟩, h.2.2⟩
theorem VF.only {w w' : World} {S : Nat → Prop} {f : Vw → List Value} {n : Nat} {ao : Option Addr} {g : Nat → Vw} (h : VF f w w.heap.size ao n g) (ho : Only S w w') (hn : ∀ i, VS ao n g i → ¬ S i) : VF f w' w'.heap.size ao n g :=
  h.move ho.size (fun hp i => ho.cell (p := ⟨blk ao, i, none⟩) (h.lt hp) (hn _ (.inl ⟨hp, rfl⟩))) (fun k hk hp i => ho.cell (p := ⟨blk (g k).ao, i, none⟩) ((h.2 k hk).lt hp) (hn _ (.inr ⟨k, hk, hp, rfl⟩)))

/-- How many marks the first k views take. -/
def cntV (g : Nat → Vw) : Nat → Nat
  | 0 => 0
  | k + 1 => cntV g k + (2 + (g k).xs.length)
def marksI (q n : Nat) : List Int := (List.range n).map fun i => ((q + i : Nat) : Int)
theorem marksI_len (q n : Nat) : (marksI q n).length = n := by simp [marksI]
theorem marksI_at {q n i : Nat} (h : i < n) : at0 (marksI q n) i = ((q + i : Nat) : Int) := by rw [at0_get (by rw [marksI_len]; exact h)]; simp [marksI]
def mkV (q : Nat) (v : Vw) : Vw := ⟨(q : Int), ((q + 1 : Nat) : Int), v.ao, v.cap, marksI (q + 2) v.xs.length⟩
/-- The first j have been marked. -/
def partV (q : Nat) (g : Nat → Vw) (j : Nat) (k : Nat) : Vw := if k < j then mkV (q + cntV g k) (g k) else g k
theorem partV_len (q : Nat) (g : Nat → Vw) (j k : Nat) : (partV q g j k).xs.length = (g k).xs.length := by unfold partV; split <;> simp [mkV, marksI_len]
theorem partV_ao (q : Nat) (g : Nat → Vw) (j k : Nat) : (partV q g j k).ao = (g k).ao := by unfold partV; split <;> rfl
theorem partV_zero (q : Nat) (g : Nat → Vw) (k : Nat) : partV q g 0 k = g k := by simp [partV]
theorem VS_part (q : Nat) (g : Nat → Vw) (j n : Nat) (ao : Option Addr) (i : Nat) : VS ao n (partV q g j) i ↔ VS ao n g i := by
  unfold VS
  simp only [partV_len, partV_ao]
theorem VD_part {w : World} {lo n : Nat} {ao : Option Addr} {g : Nat → Vw} (q j : Nat) (h : VD w lo ao n g) : VD w lo ao n (partV q g j) := by
  unfold VD at h ⊢
  simp only [partV_len, partV_ao]
  exact h
theorem cntV_mono (g : Nat → Vw) : ∀ {k n : Nat}, k ≤ n → cntV g k ≤ cntV g n
  | k, 0, h => by obtain rfl : k = 0 := by omega
                  exact Nat.le_refl _
  | k, n + 1, h => by
    by_cases e : k = n + 1
    · subst e; exact Nat.le_refl _
    · have := cntV_mono g (k := k) (n := n) (by omega)
      show _ ≤ cntV g n + _
      omega
/-- One view more is marked: its two cells, and its list. -/
theorem partV_step {w w3 : World} {q n j b off : Nat} {g : Nat → Vw} (hd : VD w 0 (some ⟨b, off, none⟩) n g) (h : VF vC w w.heap.size (some ⟨b, off, none⟩) n (partV q g j)) (hj : j < n)
    (ho : Only (fun i => 0 < (g j).xs.length ∧ i = blk (g j).ao) ((w.setCell ⟨b, off + j * 3, none⟩ (.int .i64 ((q + cntV g j : Nat) : Int))).setCell ⟨b, off + j * 3 + 1, none⟩ (.int .i64 ((q + cntV g j + 1 : Nat) : Int))) w3)
    (hi : IRow w3 w3.heap.size (g j).ao (marksI (q + cntV g j + 2) (g j).xs.length)) :
    VF vC w3 w3.heap.size (some ⟨b, off, none⟩) n (partV q g (j + 1)) ∧ Only (VS (some ⟨b, off, none⟩) n g) w w3 := by
  have hsz : w.heap.size ≤ w3.heap.size := by have := ho.size; simpa [World.setCell] using this
  have hlt : b < w.heap.size := h.lt (by omega)
  have hS : VS (some ⟨b, off, none⟩) n g b := .inl ⟨by omega, rfl⟩
  have o12 : Only (VS (some ⟨b, off, none⟩) n g) w ((w.setCell ⟨b, off + j * 3, none⟩ (.int .i64 ((q + cntV g j : Nat) : Int))).setCell ⟨b, off + j * 3 + 1, none⟩ (.int .i64 ((q + cntV g j + 1 : Nat) : Int))) := (Only.set w _ hS).trans (Only.set _ _ hS)
  have hnb : ¬ (0 < (g j).xs.length ∧ b = blk (g j).ao) := fun hh => (hd.2.1 j hj hh.1).2.1 hh.2.symm
  refine ⟨⟨fun hp => ⟨b, off, rfl, by omega, fun k hk i v hv => ?_⟩, fun k hk => ?_⟩, o12.trans (ho.mono fun i _ hh => .inr ⟨j, hj, hh.1, hh.2⟩)⟩
  · obtain ⟨b', off', e, _, hc⟩ := h.1 hp
    injection e with e; injection e with e1 e2; subst e1; subst e2
    rw [ho.cell (p := ⟨b, off + k * 3 + i, none⟩) (by simpa [World.setCell] using hlt) hnb]
    by_cases e : k = j
    · subst e
      have hp2 : partV q g (k + 1) k = mkV (q + cntV g k) (g k) := by simp [partV]
      have hp1 : partV q g k k = g k := by simp [partV]
      rw [hp2] at hv
      have hc0 := hc k hk
      rw [hp1] at hc0
      have a0 := hc0 0 _ rfl
      have a1 := hc0 1 _ rfl
      have a2 := hc0 2 _ rfl
      have hi3 : i < 3 := (List.getElem?_eq_some_iff.1 hv).1
      match i, hi3, hv with
      | 0, _, hv =>
        injection hv with hv; subst hv
        rw [set_other (off_ne (by omega))]
        exact set_same a0
      | 1, _, hv =>
        injection hv with hv; subst hv
        exact set_same ((set_other (off_ne (by omega))).trans a1)
      | 2, _, hv =>
        injection hv with hv; subst hv
        rw [set_other (off_ne (by omega)), set_other (off_ne (by omega))]
        show w.cell? ⟨b, off + k * 3 + 2, none⟩ = some (.slice (g k).ao (marksI (q + cntV g k + 2) (g k).xs.length).length (g k).cap)
        rw [marksI_len]
        exact a2
    · have hp2 : partV q g (j + 1) k = partV q g j k := by unfold partV; by_cases h1 : k < j <;> simp [h1, show (k < j + 1) = (k < j) by apply propext; omega]
      rw [hp2] at hv
      have hi3 : i < 3 := by have h3 := (List.getElem?_eq_some_iff.1 hv).1; simpa [vC] using h3
      have hne : k * 3 + i ≠ j * 3 ∧ k * 3 + i ≠ j * 3 + 1 := by omega
      rw [set_other (off_ne (by omega)), set_other (off_ne (by omega))]
      exact hc k hk i v hv
  · by_cases e : k = j
    · subst e
      have hp2 : partV q g (k + 1) k = mkV (q + cntV g k) (g k) := by simp [partV]
      rw [hp2]
      exact hi
    · have hp2 : partV q g (j + 1) k = partV q g j k := by unfold partV; by_cases h1 : k < j <;> simp [h1, show (k < j + 1) = (k < j) by apply propext; omega]
      rw [hp2]
      refine (h.2 k hk).move hsz fun hp t => ?_
      rw [partV_len] at hp
      rw [partV_ao]
      have hbk : blk (g k).ao < w.heap.size := by have := (h.2 k hk).lt (by rw [partV_len]; exact hp); rwa [partV_ao] at this
      have hne : blk (g k).ao ≠ b := (hd.2.1 k hk hp).2.1
      rw [ho.cell (p := ⟨blk (g k).ao, t, none⟩) (by simpa [World.setCell] using hbk) (fun hh => hd.2.2 k j hk hj e hp hh.1 hh.2)]
      rw [set_other (blk_ne hne.symm), set_other (blk_ne hne.symm)]
/-- The views as data. -/
def conL (n : Nat) (g : Nat → Vw) : List Vc := (List.range n).map fun k => (g k).con
theorem conL_len (n : Nat) (g : Nat → Vw) : (conL n g).length = n := by simp [conL]
theorem conL_at {n : Nat} {g : Nat → Vw} {k : Nat} (hk : k < n) : vat (conL n g) k = (g k).con := by rw [vat_get (by rw [conL_len]; exact hk)]; simp [conL]
theorem conL_congr {n : Nat} {g g' : Nat → Vw} (h : ∀ k, k < n → (g k).con = (g' k).con) : conL n g = conL n g' := by
  unfold conL
  exact List.map_congr_left fun k hk => h k (List.mem_range.1 hk)
theorem conL_snoc (n : Nat) (g : Nat → Vw) : conL (n + 1) g = conL n g ++ [(g n).con] := by unfold conL; rw [List.range_succ, List.map_append]; rfl
end Go.Proofs.Ytabkjjbhnapgpaa
