/- Contracts of the cursor by which the model draws inputs from bytes, over this seat's translation: each answers some number within its bounds and writes into the cursor alone. -/
import Derived.Test.YtgibjdmjemalcaaRm7
import Derived.Laws.Closers25b
namespace Go.Proofs.Ytgibjdmjemalcaa
open Go.RowKit Go.Deep Go.ChangeShapes Go.WideShapes Go.ChangeAt

/-- A slice of bytes below block B. -/
def BRow (w : World) (B : Nat) (ao : Option Addr) (n : Nat) : Prop :=
  0 < n → ∃ b off, ao = some ⟨b, off, none⟩ ∧ b < B ∧ ∀ i, i < n → ∃ z : Int, 0 ≤ z ∧ z ≤ 255 ∧ w.cell? ⟨b, off + i, none⟩ = some (.int .u8 z)

/-- The cursor in block B: it reads n bytes, and stands at place k. -/
def Cur (w : World) (B : Nat) (ao : Option Addr) (n cap k : Nat) : Prop :=
  (∃ s : Int, 0 ≤ s ∧ s ≤ 18446744073709551615 ∧ w.heap[B]? = some (.cells #[.slice ao n cap, .int .i64 k, .int .u64 s] 33 (0, 0))) ∧ BRow w B ao n

theorem BRow.other {w w' : World} {B : Nat} {ao : Option Addr} {n : Nat} (h : BRow w B ao n) (hg : w.grownBy w' (some B)) : BRow w' B ao n := fun hp => by
  obtain ⟨b, off, e, hb, hc⟩ := h hp
  refine ⟨b, off, e, hb, fun i hi => ?_⟩
  obtain ⟨z, h0, h1, h2⟩ := hc i hi
  exact ⟨z, h0, h1, hg.cell h2 (by simp; omega)⟩

theorem grownBy_drewN (w : World) (q : Nat) (row : Option Nat) : w.grownBy (w.drewN q) row := by
  induction q with
  | zero => exact World.grownBy.refl _ _
  | succ q ih => exact ih.trans ⟨rfl, rfl, rfl, Nat.le_refl _, fun _ _ _ => rfl⟩

theorem grownBy_setCell (w : World) (B i : Nat) (v : Value) : w.grownBy (w.setCell ⟨B, i, none⟩ v) (some B) :=
  ⟨rfl, rfl, rfl, by simp [World.setCell], fun k _ hne => Below.heap_setCell _ _ _ _ (fun e => hne (by simp [e]))⟩

theorem cur_step {w : World} {B : Nat} {ao : Option Addr} {n cap k : Nat} {s : Int} (hb : w.heap[B]? = some (.cells #[.slice ao n cap, .int .i64 k, .int .u64 s] 33 (0, 0))) (hr : BRow w B ao n) (a c : Nat) (t : Int) (h0 : 0 ≤ t) (h1 : t ≤ 18446744073709551615) :
    Cur ((((w.drewN a).setCell ⟨B, 1, none⟩ (.int .i64 (k + 1))).setCell ⟨B, 2, none⟩ (.int .u64 t)).drewN c) B ao n cap (k + 1) ∧ w.grownBy ((((w.drewN a).setCell ⟨B, 1, none⟩ (.int .i64 (k + 1))).setCell ⟨B, 2, none⟩ (.int .u64 t)).drewN c) (some B) := by
  have hg : w.grownBy ((((w.drewN a).setCell ⟨B, 1, none⟩ (.int .i64 (k + 1))).setCell ⟨B, 2, none⟩ (.int .u64 t)).drewN c) (some B) :=
    (((grownBy_drewN _ _ _).trans (grownBy_setCell _ _ _ _)).trans (grownBy_setCell _ _ _ _)).trans (grownBy_drewN _ _ _)
  refine ⟨⟨⟨t, h0, h1, ?_⟩, hr.other hg⟩, hg⟩
  simp [World.setCell, Array.getElem?_modify, hb]

theorem wrapu_bounds (x : Int) : 0 ≤ IntKind.u64.wrap x ∧ IntKind.u64.wrap x ≤ 18446744073709551615 := by rw [IntKind.wrap_u64]; omega

theorem low8 (x : Int) (h0 : 0 ≤ x) (h1 : x ≤ 18446744073709551615) : 0 ≤ RowKit.wrap64 (bits BinOp.and IntKind.u64 x 255) ∧ RowKit.wrap64 (bits BinOp.and IntKind.u64 x 255) ≤ 255 := by
  have h := bits_and_u64_nat x.toNat 255 (by omega) (by omega)
  rw [show (255 : Nat) = 2 ^ 8 - 1 from rfl, Nat.and_two_pow_sub_one_eq_mod, Int.toNat_of_nonneg h0] at h
  have e : bits BinOp.and IntKind.u64 x 255 = ((x.toNat % 2 ^ 8 : Nat) : Int) := h
  rw [e]
  unfold RowKit.wrap64
  omega

set_option maxHeartbeats 1000000 in
theorem nextC (w : World) (B : Nat) (ao : Option Addr) (n cap k : Nat) (h : Cur w B ao n cap k) (hn : n ≤ 1048576) (hk : k ≤ 10000000) :
    Calls Try.prog 35 #[.pointer (some ⟨B, 0, none⟩)] w fun e w' => ∃ r : Int, 0 ≤ r ∧ r ≤ 255 ∧ e = .returned (.int .i64 r) ∧ Cur w' B ao n cap (k + 1) ∧ w.grownBy w' (some B) := by
  obtain ⟨⟨s, hs0, hs1, hblk⟩, hrow⟩ := h
  have HB := Lib.hid hblk
  have HR := Lib.hid hrow
  have c0 : w.cell? ⟨B, 0, none⟩ = some (.slice ao n cap) := by simp [World.cell?, hblk]
  have c1 : w.cell? ⟨B, 1, none⟩ = some (.int .i64 k) := by simp [World.cell?, hblk]
  have c2 : w.cell? ⟨B, 2, none⟩ = some (.int .u64 s) := by simp [World.cell?, hblk]
  have f0 : ∀ i, w.frozen? ⟨B, i, none⟩ = false := fun i => by simp [World.frozen?, hblk]
  clear hblk hrow
  by_cases hlt : k < n
  · obtain ⟨b, off, hao, hb, hc⟩ := HR.out (by omega)
    subst hao
    obtain ⟨z, hz0, hz1, hcz⟩ := hc k hlt
    clear hc
    go_enter Try.func35, Try.ntmps35
    go_wp2
    go_quiet (fail)
    go_wp2
    go_quiet (fail)
    go_wp2
    go_quiet (fail)
    go_wp2
    go_ret
    exact ⟨z, hz0, hz1, rfl, cur_step HB.out HR.out _ _ _ (wrapu_bounds _).1 (wrapu_bounds _).2⟩
  · go_enter Try.func35, Try.ntmps35
    go_wp2
    go_quiet (fail)
    go_wp2
    go_quiet (fail)
    go_wp2
    go_ret
    have hX := wrapu_bounds (IntKind.u64.wrap (IntKind.u64.wrap (s * 6364136223846793005)) + 1442695040888963407)
    have hr := low8 (IntKind.u64.wrap (IntKind.u64.wrap (IntKind.u64.wrap (s * 6364136223846793005)) + 1442695040888963407) / 1099511627776) (by omega) (by omega)
    exact ⟨_, hr.1, hr.2, rfl, cur_step HB.out HR.out _ _ _ (wrapu_bounds _).1 (wrapu_bounds _).2⟩

/-- What a call that draws leaves: some place further on, and what it has made. -/
def Drawn (w w' : World) (B : Nat) (ao : Option Addr) (n cap k j : Nat) : Prop := (∃ k', k' ≤ k + j ∧ Cur w' B ao n cap k') ∧ w.grownBy w' (some B)

def Picked (w : World) (B : Nat) (ao : Option Addr) (n cap k j : Nat) (m : Int) (e : Ending) (w' : World) : Prop :=
  ∃ r : Int, 0 ≤ r ∧ r < m ∧ e = .returned (.int .i64 r) ∧ Drawn w w' B ao n cap k j

set_option maxHeartbeats 1000000 in
theorem pickC (w : World) (B : Nat) (ao : Option Addr) (n cap k : Nat) (m : Int) (h : Cur w B ao n cap k) (hn : n ≤ 1048576) (hk : k ≤ 9000000) (hm1 : 0 < m) (hm2 : m ≤ 200) :
    Calls Try.prog 25 #[.pointer (some ⟨B, 0, none⟩), .int .i64 m] w (Picked w B ao n cap k 1 m) := by
  have H := Lib.hid h
  clear h
  by_cases hm : m ≤ 1
  · go_enter Try.func25, Try.ntmps25
    go_wp2
    go_ret
    exact ⟨0, Int.le_refl _, by omega, rfl, ⟨k, by omega, H.out⟩, World.grownBy.refl _ _⟩
  go_enter Try.func25, Try.ntmps25
  go_wp2_with fail
  refine (nextC w B ao n cap k H.out hn (by omega)).mono ?_
  rintro e w1 ⟨r, hr0, hr1, rfl, hc1, hg1⟩
  have HC := Lib.hid hc1; have HG := Lib.hid hg1; clear hc1 hg1
  go_wp2
  go_ret
  exact ⟨_, Int.emod_nonneg _ (by omega), Int.emod_lt_of_pos _ (by omega), rfl, ⟨k + 1, by omega, HC.out⟩, HG.out⟩

theorem Drawn.trans {a b c : World} {B : Nat} {ao : Option Addr} {n cap k i k' j : Nat} (h : a.grownBy b (some B)) (hk : k' ≤ k + i) (h2 : Drawn b c B ao n cap k' j) : Drawn a c B ao n cap k (i + j) := by
  obtain ⟨⟨k2, hk2, hc⟩, hg⟩ := h2
  exact ⟨⟨k2, by omega, hc⟩, h.trans hg⟩
theorem Cur.lt {w : World} {B : Nat} {ao : Option Addr} {n cap k : Nat} (h : Cur w B ao n cap k) : B < w.heap.size := by
  obtain ⟨⟨s, _, _, hb⟩, _⟩ := h
  exact (Array.getElem?_eq_some_iff.1 hb).1
theorem Cur.alloc {w : World} {B : Nat} {ao : Option Addr} {n cap k : Nat} (h : Cur w B ao n cap k) (o : Obj) : Cur (w.alloc o) B ao n cap k := by
  have hl := h.lt
  obtain ⟨⟨s, h0, h1, hb⟩, hr⟩ := h
  exact ⟨⟨s, h0, h1, by rw [Below.heap_alloc _ _ _ hl]; exact hb⟩, hr.other (World.grownBy_alloc _ _ _)⟩
theorem Cur.kept {w w' : World} {B : Nat} {ao : Option Addr} {n cap k : Nat} {row : Option Nat} (h : Cur w B ao n cap k) (hg : w.grownBy w' row) (hr : ∀ g, row = some g → B < g) : Cur w' B ao n cap k := by
  have hl := h.lt
  obtain ⟨⟨s, h0, h1, hb⟩, hrow⟩ := h
  refine ⟨⟨s, h0, h1, ?_⟩, fun hp => ?_⟩
  · rw [hg.block B hl (fun e => by have := hr B e.symm; omega)]; exact hb
  · obtain ⟨b, off, e, hbl, hc⟩ := hrow hp
    refine ⟨b, off, e, hbl, fun i hi => ?_⟩
    obtain ⟨z, z0, z1, z2⟩ := hc i hi
    exact ⟨z, z0, z1, hg.cell z2 (fun e => by have := hr b e.symm; omega)⟩
theorem Cur.below {w w' : World} {B : Nat} {ao : Option Addr} {n cap k : Nat} (h : Cur w B ao n cap k) (hb : Below w.heap.size w w') : Cur w' B ao n cap k := h.kept (row := none) (gb_below hb) (fun g hg => by cases hg)

/-- Whether once in m times. -/
def OneOf (w : World) (B : Nat) (ao : Option Addr) (n cap k j : Nat) (e : Ending) (w' : World) : Prop :=
  ∃ b : Bool, e = .returned (.bool b) ∧ Drawn w w' B ao n cap k j
theorem oneC (w : World) (B : Nat) (ao : Option Addr) (n cap k : Nat) (m : Int) (h : Cur w B ao n cap k) (hn : n ≤ 1048576) (hk : k ≤ 9000000) (hm1 : 0 < m) (hm2 : m ≤ 200) :
    Calls Try.prog 26 #[.pointer (some ⟨B, 0, none⟩), .int .i64 m] w (OneOf w B ao n cap k 1) := by
  have H := Lib.hid h
  clear h
  go_enter Try.func26, Try.ntmps26
  go_wp2_with fail
  refine (pickC w B ao n cap k m H.out hn hk hm1 hm2).mono ?_
  rintro e w1 ⟨r, hr0, hr1, rfl, hD⟩
  have HD := Lib.hid hD; clear hD
  go_wp2
  go_ret
  exact ⟨_, rfl, HD.out⟩

theorem cur_new (w : World) (ao : Option Addr) (n cap : Nat) (h : BRow w w.heap.size ao n) : Cur (w.alloc (.cells #[.slice ao n cap, .int .i64 0, .int .u64 0] 33)) w.heap.size ao n cap 0 :=
  ⟨⟨0, by decide, by decide, blk_alloc_new _ _⟩, h.other (World.grownBy_alloc _ _ _)⟩
/-- What wrote into a new cursor alone wrote nothing that was there. -/
theorem below_cur {w w' : World} {o : Obj} (hg : (w.alloc o).grownBy w' (some w.heap.size)) : Below w.heap.size w w' :=
  ((Below.refl _ w).alloc (Nat.le_refl _) o).grown hg (by simp) (fun k hk => by injection hk with hk; omega)
theorem BRow.after {w w' : World} {ao : Option Addr} {n : Nat} (h : BRow w w.heap.size ao n) (hb : Below w.heap.size w w') : BRow w' w'.heap.size ao n := fun hp => by
  obtain ⟨b, off, e, hl, hc⟩ := h hp
  refine ⟨b, off, e, Nat.lt_of_lt_of_le hl hb.size, fun i hi => ?_⟩
  obtain ⟨z, z0, z1, z2⟩ := hc i hi
  exact ⟨z, z0, z1, (hb.cell (p := ⟨b, off + i, none⟩) hl).trans z2⟩

/-- Some number of a short list. -/
def Among (P : Int → Prop) (w : World) (B : Nat) (ao : Option Addr) (n cap k j : Nat) (e : Ending) (w' : World) : Prop := ∃ z : Int, P z ∧ e = .returned (.int .i64 z) ∧ Drawn w w' B ao n cap k j
theorem amongC (P : Int → Prop) (m : Nat) (hm : 0 < m) (hm2 : m ≤ 100) (w : World) (B : Nat) (ao : Option Addr) (n cap k g c : Nat) (h : Cur w B ao n cap k) (hn : n ≤ 1048576) (hk : k ≤ 9000000) (hg : B < g) (hc : ∀ i, i < m → ∃ z : Int, P z ∧ w.cell? ⟨g, i, none⟩ = some (.int .i64 z)) :
    Calls Try.prog 27 #[.pointer (some ⟨B, 0, none⟩), .slice (some ⟨g, 0, none⟩) m c] w (Among P w B ao n cap k 1) := by
  have H := Lib.hid h
  have HC := Lib.hid hc
  clear h hc
  go_enter Try.func27, Try.ntmps27
  go_wp2_with fail
  refine (pickC w B ao n cap k m H.out hn hk (by omega) (by omega)).mono ?_
  rintro e w1 ⟨r, hr0, hr1, rfl, hD⟩
  obtain ⟨i, rfl⟩ := Int.eq_ofNat_of_zero_le hr0
  have hi : i < m := by omega
  obtain ⟨z, hP, hz⟩ := HC.out i hi
  have HP := Lib.hid hP
  have c0 := hD.2.cell hz (by simp; omega)
  have HD := Lib.hid hD
  clear hD hz hP
  go_wp2
  go_ret
  exact ⟨z, HP.out, rfl, HD.out⟩
end Go.Proofs.Ytgibjdmjemalcaa
