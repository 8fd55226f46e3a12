/- Contracts of the model's drawing of matchers and of spoilt texts, over this seat's translation: some short matchers and texts, only the cursor written. -/
import Derived.Test.YtpbcgfgjdimpmaaDoorDrawt
namespace Go.Proofs.YtpbcgfgjdimpmaaDoor
open Go.RowKit Go.Deep

/-- A block of three cells of a matcher. -/
def Blk3 (w : World) (g : Nat) (a b c : Value) : Prop := w.heap[g]? = some (.cells #[a, b, c] 43)
theorem Blk3.cells {w : World} {g : Nat} {a b c : Value} (h : Blk3 w g a b c) : w.cell? ⟨g, 0, none⟩ = some a ∧ w.cell? ⟨g, 1, none⟩ = some b ∧ w.cell? ⟨g, 2, none⟩ = some c ∧ w.frozen? ⟨g, 0, none⟩ = false ∧ w.frozen? ⟨g, 1, none⟩ = false ∧ w.frozen? ⟨g, 2, none⟩ = false := by
  unfold Blk3 at h
  refine ⟨?_, ?_, ?_, ?_, ?_, ?_⟩ <;> simp [World.cell?, World.frozen?, h]
theorem Blk3.lt {w : World} {g : Nat} {a b c : Value} (h : Blk3 w g a b c) : g < w.heap.size := (Array.getElem?_eq_some_iff.1 h).1
theorem Blk3.new (w : World) (a b c : Value) : Blk3 (w.alloc (.cells #[a, b, c] 43)) w.heap.size a b c := blk_alloc_new _ _
theorem Blk3.kept {w w' : World} {g B : Nat} {a b c : Value} (h : Blk3 w g a b c) (hg : w.grownBy w' (some B)) (hne : g ≠ B) : Blk3 w' g a b c := by
  unfold Blk3
  rw [hg.block g h.lt (fun e => hne (Option.some.inj e))]; exact h
theorem Blk3.alloc {w : World} {g : Nat} {a b c : Value} (h : Blk3 w g a b c) (o : Obj) : Blk3 (w.alloc o) g a b c := by
  unfold Blk3
  rw [Below.heap_alloc _ _ _ h.lt]; exact h

def Inted (w : World) (B : Nat) (ao : Option Addr) (n cap k j : Nat) (e : Ending) (w' : World) : Prop :=
  ∃ r : Int, e = .returned (.int .i64 r) ∧ Drawn w w' B ao n cap k j
theorem among113 (w : World) (B : Nat) (ao : Option Addr) (n cap k : Nat) (g : Nat) (h : Cur w B ao n cap k) (hn : n ≤ 1048576) (hk : k ≤ 9000000) (hg : B < g) (c0 : w.cell? ⟨g, 0, none⟩ = some (.int .i64 0)) (c1 : w.cell? ⟨g, 1, none⟩ = some (.int .i64 5)) :
    Calls Tryd.prog 113 #[.pointer (some ⟨B, 0, none⟩), .slice (some ⟨g, 0, none⟩) 2 2] w (Inted w B ao n cap k 1) := by
  have H := Lib.hid h
  have HC0 := Lib.hid c0
  have HC1 := Lib.hid c1
  clear h c0 c1
  go_enter Tryd.func113, Tryd.ntmps113
  go_wp2_with fail
  refine (pick51 w B ao n cap k 2 H.out hn hk (by omega) (by omega)).mono ?_
  rintro e w1 ⟨r, hr0, hr1, rfl, hD⟩
  obtain ⟨i, rfl⟩ := Int.eq_ofNat_of_zero_le hr0
  obtain ⟨q, hq⟩ : ∃ q : Int, w1.cell? ⟨g, i, none⟩ = some (.int .i64 q) := by
    obtain rfl | rfl : i = 0 ∨ i = 1 := by omega
    · exact ⟨0, hD.2.cell HC0.out (by simp; omega)⟩
    · exact ⟨5, hD.2.cell HC1.out (by simp; omega)⟩
  have HD := Lib.hid hD
  clear hD
  go_wp2
  go_ret
  exact ⟨q, rfl, HD.out⟩

def Matched (w : World) (B : Nat) (ao : Option Addr) (n cap k j : Nat) (e : Ending) (w' : World) : Prop :=
  ∃ (q : Int) (x y : ByteArray), x.size ≤ 20 ∧ y.size ≤ 20 ∧ e = .returned (matV q x y) ∧ Drawn w w' B ao n cap k j

set_option maxHeartbeats 8000000 in
set_option maxRecDepth 100000 in
theorem matcher81 (w : World) (B : Nat) (ao : Option Addr) (n cap k : Nat) (h : Cur w B ao n cap k) (hn : n ≤ 1048576) (hk : k ≤ 8000000) :
    Calls Tryd.prog 81 #[.pointer (some ⟨B, 0, none⟩)] w (Matched w B ao n cap k 5) := by
  have H := Lib.hid h
  have hB := h.lt
  clear h
  have HR0 := Lib.hid (Blk3.new w (.int .i64 0) (.string ⟨#[]⟩) (.string ⟨#[]⟩))
  have HC0 := Lib.hid (H.out.alloc (.cells #[.int .i64 0, .string ⟨#[]⟩, .string ⟨#[]⟩] 43))
  have HG0 := Lib.hid ((World.grownBy_alloc w (.cells #[.int .i64 0, .string ⟨#[]⟩, .string ⟨#[]⟩] 43) (some B)))
  go_enter Tryd.func81, Tryd.ntmps81
  go_wp2_with fail
  refine (pick51 _ B ao n cap k 4 HC0.out hn (by omega) (by omega) (by omega)).mono ?_
  rintro e w1 ⟨r, hr0, hr1, rfl, ⟨k1, hk1, hC1⟩, hg1⟩
  have HR1 := Lib.hid (HR0.out.kept hg1 (by omega))
  have HC1 := Lib.hid hC1
  have HG1 := Lib.hid (HG0.out.trans hg1)
  clear hC1 hg1
  go_wp2_with fail
  refine (name52 _ B ao n cap k1 HC1.out hn (by omega)).mono ?_
  rintro e w2 ⟨x, hx, rfl, ⟨k2, hk2, hC2⟩, hg2⟩
  have HR2 := Lib.hid (HR1.out.kept hg2 (by omega))
  have HC2 := Lib.hid hC2
  have HG2 := Lib.hid (HG1.out.trans hg2)
  clear hC2 hg2
  go_wp2_with fail
  refine (of70 _ B ao n cap k2 _ _ [⟨#[97]⟩, ⟨#[98]⟩, ⟨#[97, 112, 105]⟩, ⟨#[]⟩, ⟨#[97, 42]⟩, ⟨#[42]⟩, ⟨#[42, 105]⟩, ⟨#[97, 42, 105, 42]⟩, ⟨#[100, 98]⟩, ⟨#[120, 42, 121]⟩] (HC2.out.alloc _) hn (by omega) ⟨by decide, by decide, by decide⟩ ⟨_, rfl, HC2.out.lt, fresh_texts w2 _ 9⟩).mono ?_
  rintro e w3 ⟨y, hy, rfl, ⟨k3, hk3, hC3⟩, hg3⟩
  have HR3 := Lib.hid ((HR2.out.alloc _).kept hg3 (by omega))
  have HG3 := Lib.hid ((HG2.out.trans (World.grownBy_alloc _ _ _)).trans hg3)
  have HC3 := Lib.hid (hC3.alloc (.cells #[.int .i64 (1 + r), .string x, .string y] 43))
  have HR4 := Lib.hid (HR3.out.alloc (.cells #[.int .i64 (1 + r), .string x, .string y] 43))
  have HM4 := Lib.hid (Blk3.new w3 (.int .i64 (1 + r)) (.string x) (.string y))
  have HG4 := Lib.hid (HG3.out.trans (World.grownBy_alloc _ (.cells #[.int .i64 (1 + r), .string x, .string y] 43) _))
  have hws : w.heap.size < w3.heap.size := HR3.out.lt
  clear hC3 hg3
  go_wp2_with fail
  refine (pick51 _ B ao n cap k3 30 HC3.out hn (by omega) (by omega) (by omega)).mono ?_
  rintro e w5 ⟨r2, hr20, hr21, rfl, ⟨k5, hk5, hC5⟩, hg5⟩
  have HR5 := Lib.hid (HR4.out.kept hg5 (by omega))
  have HM5 := Lib.hid (HM4.out.kept hg5 (by omega))
  have HG5 := Lib.hid (HG4.out.trans hg5)
  have HC5 := Lib.hid hC5
  have hne : w.heap.size ≠ w3.heap.size := by omega
  have hne' : w3.heap.size ≠ w.heap.size := by omega
  clear hC5 hg5
  by_cases e0 : r2 = 0
  · subst e0
    have HCa := Lib.hid (HC5.out.alloc (.cells #[.int .i64 0, .int .i64 5] 3))
    go_wp2_with fail
    refine (among113 _ B ao n cap k5 w5.heap.size HCa.out hn (by omega) HC5.out.lt (by simp) (by simp)).mono ?_
    rintro e w6 ⟨q, rfl, ⟨k6, hk6, hC6⟩, hg6⟩
    obtain ⟨m0, m1, m2, n0, n1, n2⟩ := ((HM5.out.alloc (.cells #[.int .i64 0, .int .i64 5] 3)).kept hg6 (by omega)).cells
    obtain ⟨z0, z1, z2, f0, f1, f2⟩ := ((HR5.out.alloc (.cells #[.int .i64 0, .int .i64 5] 3)).kept hg6 (by omega)).cells
    have HD : Hid (Drawn w w6 B ao n cap k 5) := Lib.hid ⟨⟨k6, by omega, hC6⟩, (HG5.out.trans (World.grownBy_alloc _ _ _)).trans hg6⟩
    clear hC6 hg6
    go_wp2
    exact bodyPost_ret (v := matV q x y) (by simp [results, Tryd.results81, go_sem, z0, z1, z2]) rfl ⟨q, x, y, hx, hy, rfl, (((HD.out.stored hB (by omega) _ _).stored hB (Nat.le_refl _) _ _).stored hB (Nat.le_refl _) _ _).stored hB (Nat.le_refl _) _ _⟩
  obtain ⟨m0, m1, m2, n0, n1, n2⟩ := HM5.out.cells
  obtain ⟨z0, z1, z2, f0, f1, f2⟩ := HR5.out.cells
  have HD : Hid (Drawn w w5 B ao n cap k 5) := Lib.hid ⟨⟨k5, by omega, HC5.out⟩, HG5.out⟩
  have q0 : (r2 == 0) = false := beq_eq_false_iff_ne.2 e0
  by_cases e1 : r2 = 1
  · subst e1
    go_wp2
    exact bodyPost_ret (v := matV (1 + r) emp y) (by simp [results, Tryd.results81, go_sem, z0, z1, z2, emp]) rfl ⟨1 + r, emp, y, by decide, hy, rfl, (((HD.out.stored hB (by omega) _ _).stored hB (Nat.le_refl _) _ _).stored hB (Nat.le_refl _) _ _).stored hB (Nat.le_refl _) _ _⟩
  have q1 : (r2 == 1) = false := beq_eq_false_iff_ne.2 e1
  by_cases e2 : r2 = 2
  · subst e2
    go_wp2
    exact bodyPost_ret (v := matV (1 + r) x ⟨#[97, 32, 98]⟩) (by simp [results, Tryd.results81, go_sem, z0, z1, z2]) rfl ⟨1 + r, x, ⟨#[97, 32, 98]⟩, hx, by decide, rfl, (((HD.out.stored hB (by omega) _ _).stored hB (Nat.le_refl _) _ _).stored hB (Nat.le_refl _) _ _).stored hB (Nat.le_refl _) _ _⟩
  have q2 : (r2 == 2) = false := beq_eq_false_iff_ne.2 e2
  clear e0 e1 e2
  go_wp2
  exact bodyPost_ret (v := matV (1 + r) x y) (by simp [results, Tryd.results81, go_sem, z0, z1, z2]) rfl ⟨1 + r, x, y, hx, hy, rfl, ((HD.out.stored hB (Nat.le_refl _) _ _).stored hB (Nat.le_refl _) _ _).stored hB (Nat.le_refl _) _ _⟩

def SmallM (m : Nat) (l : List Mat) : Prop := l.length ≤ m ∧ ∀ x ∈ l, x.2.1.size ≤ 20 ∧ x.2.2.size ≤ 20
theorem SmallM.fit {m : Nat} {l : List Mat} (h : SmallM m l) (hm : m ≤ 100) : FitM l := ⟨by have := h.1; omega, fun x hx => by have := h.2 x hx; omega⟩
theorem SmallM.append {m : Nat} {l : List Mat} (h : SmallM m l) {x : Mat} (h1 : x.2.1.size ≤ 20) (h2 : x.2.2.size ≤ 20) : SmallM (m + 1) (l ++ [x]) := by
  refine ⟨by have := h.1; simp; omega, fun y hy => ?_⟩
  rcases List.mem_append.1 hy with hy | hy
  · exact h.2 y hy
  · obtain rfl := List.mem_singleton.1 hy; exact ⟨h1, h2⟩
theorem SmallM.more {m m' : Nat} {l : List Mat} (h : SmallM m l) (hm : m ≤ m') : SmallM m' l := ⟨by have := h.1; omega, h.2⟩
def MInv (w : World) (B : Nat) (ao : Option Addr) (n cap K M : Nat) (v : Value) (wr : World) : Prop :=
  ∃ (l : List Mat) (k' : Nat), k' ≤ K ∧ SmallM M l ∧ wr.ownsRow w.heap.size 43 3 v l.length (cellsM l) ∧ Cur wr B ao n cap k' ∧ w.grownBy wr (some B)
theorem minv_step {w wr w1 w2 : World} {B : Nat} {ao : Option Addr} {n cap K k1 j M : Nat} {v v' : Value} {q : Int} {x1 x2 : ByteArray} {l : List Mat} {o : Obj} (hB : B < w.heap.size) (hs : SmallM M l) (h1 : x1.size ≤ 20) (h2 : x2.size ≤ 20)
    (hown : wr.ownsRow w.heap.size 43 3 v l.length (cellsM l)) (hg0 : w.grownBy wr (some B)) (hD : Drawn wr w1 B ao n cap k1 j) (hk : k1 + j ≤ K)
    (hown' : w2.ownsRow w.heap.size 43 3 v' (l.length + 1) (cellsM l ++ [.int .i64 q, .string x1, .string x2])) (hgrow : (w1.alloc o).grownBy w2 v.ownBlock) : MInv w B ao n cap K (M + 1) v' w2 := by
  obtain ⟨⟨k2, hk2, hC⟩, hg1⟩ := hD
  have hge : ∀ g, v.ownBlock = some g → w.heap.size ≤ g := fun g hg => (hown.lt g hg).1
  refine ⟨l ++ [(q, x1, x2)], k2, by omega, hs.append h1 h2, by rw [cellsM_append, List.length_append]; exact hown', (hC.alloc o).kept hgrow (fun g hg => by have := hge g hg; omega), ?_⟩
  exact ((hg0.trans hg1).trans (World.grownBy_alloc _ _ _)).andThen hgrow (fun g hg => .inl (hge g hg))
theorem new_triple {w : World} {a b c : Value} {t : TypeId} : ∀ (j : Nat) u, [a, b, c][j]? = some u → (w.alloc (.cells #[a, b, c] t)).cell? ((⟨w.heap.size, 0, none⟩ : Addr).add j) = some u := by
  intro j u hj
  match j, hj with
  | 0, hj => simp at hj; subst hj; simp [Addr.add]
  | 1, hj => simp at hj; subst hj; simp [Addr.add]
  | 2, hj => simp at hj; subst hj; simp [Addr.add]
theorem triple_one {q : Int} {x1 x2 : ByteArray} : ∀ u ∈ [Value.int .i64 q, Value.string x1, Value.string x2], u.oneCell' = true := by
  intro u hu; simp at hu; rcases hu with rfl | rfl | rfl <;> rfl

def Matcheds (w : World) (B : Nat) (ao : Option Addr) (n cap k j m : Nat) (e : Ending) (w' : World) : Prop :=
  ∃ (v : Value) (l : List Mat), SmallM m l ∧ e = .returned v ∧ w'.ownsRow w.heap.size 43 3 v l.length (cellsM l) ∧ Drawn w w' B ao n cap k j

set_option maxHeartbeats 4000000 in
set_option maxRecDepth 100000 in
theorem matchers87 (w : World) (B : Nat) (ao : Option Addr) (n cap k : Nat) (h : Cur w B ao n cap k) (hn : n ≤ 1048576) (hk : k ≤ 7000000) :
    Calls Tryd.prog 87 #[.pointer (some ⟨B, 0, none⟩)] w (Matcheds w B ao n cap k 11 2) := by
  have H := Lib.hid h
  clear h
  obtain ⟨i0, hi0, hz0, hz1, hz2⟩ := info_parts Tryd.info43
  go_enter Tryd.func87, Tryd.ntmps87
  go_wp2_with fail
  refine (pick51 w B ao n cap k 3 H.out hn (by omega) (by decide) (by decide)).mono ?_
  rintro e w1 ⟨r, hr0, hr1, rfl, hD⟩
  obtain ⟨j0, rfl⟩ := Int.eq_ofNat_of_zero_le hr0
  have hj0 : j0 ≤ 2 := by omega
  have HI : Hid (MInv w B ao n cap (k + 11 - 5 * j0) (2 - j0) (.slice none 0 0) w1) := by
    obtain ⟨⟨k1, hk1, hC1⟩, hG1⟩ := hD
    exact Lib.hid ⟨[], k1, by omega, ⟨by simp, by simp⟩, World.ownsRow_nil _ _ _ _, hC1, hG1⟩
  clear hD
  go_wp2_with fail
  go_loopw [3, 4] (fun v i wr => ∃ j : Nat, j ≤ 2 ∧ i = .int .i64 j ∧ Hid (MInv w B ao n cap (k + 11 - 5 * j) (2 - j) v wr)) (fun _ i _ => (intOf i).toNat)
  case atStart => exact ⟨j0, hj0, rfl, HI⟩
  case round =>
    obtain ⟨j, hj3, rfl, hI⟩ := hrel
    cases j with
    | zero =>
      obtain ⟨l, k', hk', hs, hown, hC, hg⟩ := hI.out
      have HS := Lib.hid hs; have HO := Lib.hid hown; have HC := Lib.hid hC; have HG := Lib.hid hg
      clear hs hown hC hg hI
      go_wp2
      go_ret
      exact ⟨_, l, HS.out.more (by omega), rfl, HO.out, ⟨k', by omega, HC.out⟩, HG.out⟩
    | succ j =>
      obtain ⟨l, k', hk', hs, hown, hC, hg⟩ := hI.out
      have HS := Lib.hid hs; have HO := Lib.hid hown; have HC := Lib.hid hC; have HG := Lib.hid hg
      have hl := hs.1
      clear hs hown hC hg hI
      go_wp2_with fail
      refine (matcher81 _ B ao n cap k' HC.out hn (by omega)).mono ?_
      rintro e w3 ⟨q, x1, x2, hx1, hx2, rfl, hD3⟩
      have HD := Lib.hid hD3
      clear hD3
      go_wp2_with (at_builtin; refine wpList_append_own _ rfl (.tmp 11) (.tmp 14) 50 rfl w.heap.size 43 i0 _ 3 40 Tryd.underlying50 hi0 hz0 hz1 hz2 rfl (by decide) _ _ _ rfl ((own_other HO.out H.out.lt HD.out.2).alloc _) ⟨w3.heap.size, 0, none⟩ 1 1 [.int .i64 q, .string x1, .string x2] rfl rfl new_triple triple_one ?c3 ?c4 ?c5 ?_)
      case c3 => unfold maxLen; omega
      case c4 => omega
      case c5 => have h1 := HG.out.size; have h2 := HD.out.2.size; simp; omega
      intro v' w4 hown' hgrow _
      have R := Lib.hid (minv_step (K := k + 11 - 5 * j) H.out.lt HS.out hx1 hx2 HO.out HG.out HD.out (by omega) hown' hgrow)
      have e1 : 2 - (j + 1) + 1 = 2 - j := by omega
      rw [e1] at R
      clear hown' hgrow
      go_wp2
      go_roundw
      case rel => exact ⟨j, by omega, by go_num, R⟩
      case measure => simp [intOf]
end Go.Proofs.YtpbcgfgjdimpmaaDoor
