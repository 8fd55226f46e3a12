/- Contracts of the exact laws on marks: sizes, copies, whether two are the same; over this seat's translation. -/
import Derived.Test.YtabkjjbhnapgpaaVu
namespace Go.Proofs.Ytabkjjbhnapgpaa
open Go.RowKit Go.Deep Go.ChangeShapes Go.WideShapes Go.ChangeAt

/-- Marks as they lie in memory. -/
def MH (w : World) (B : Nat) (oo : Option Addr) (op : List Int) (ro : Option Addr) (n : Nat) (g : Nat → Vw) : Prop := IRow w B oo op ∧ VF vC w B ro n g
theorem MH.below {w w' : World} {B B' n : Nat} {oo ro : Option Addr} {op : List Int} {g : Nat → Vw} (h : MH w B oo op ro n g) (hB : B ≤ B') (hb : Below B w w') : MH w' B' oo op ro n g := ⟨h.1.below hB hb, h.2.below hB hb⟩
theorem MH.after {w w' : World} {n : Nat} {oo ro : Option Addr} {op : List Int} {g : Nat → Vw} (h : MH w w.heap.size oo op ro n g) (hb : Below w.heap.size w w') : MH w' w'.heap.size oo op ro n g := h.below hb.size hb
/-- Whose blocks they are. -/
def MD (w : World) (lo : Nat) (oo : Option Addr) (op : List Int) (ro : Option Addr) (n : Nat) (g : Nat → Vw) : Prop :=
  VD w lo ro n g ∧ (0 < op.length → lo ≤ blk oo ∧ (∀ i, w.frozen? ⟨blk oo, i, none⟩ = false) ∧ ¬ VS ro n g (blk oo))
def MS (oo : Option Addr) (op : List Int) (ro : Option Addr) (n : Nat) (g : Nat → Vw) (i : Nat) : Prop := (0 < op.length ∧ i = blk oo) ∨ VS ro n g i
theorem MD.ge {w : World} {lo n : Nat} {oo ro : Option Addr} {op : List Int} {g : Nat → Vw} (h : MD w lo oo op ro n g) : ∀ i, MS oo op ro n g i → lo ≤ i := by
  rintro i (⟨hp, rfl⟩ | hv)
  · exact (h.2 hp).1
  · exact h.1.ge i hv
theorem MH.slt {w : World} {B n : Nat} {oo ro : Option Addr} {op : List Int} {g : Nat → Vw} (h : MH w B oo op ro n g) : ∀ i, MS oo op ro n g i → i < B := by
  rintro i (⟨hp, rfl⟩ | hv)
  · exact h.1.lt hp
  · exact h.2.slt i hv
theorem MH.only {w w' : World} {S : Nat → Prop} {n : Nat} {oo ro : Option Addr} {op : List Int} {g : Nat → Vw} (h : MH w w.heap.size oo op ro n g) (ho : Only S w w') (hn : ∀ i, MS oo op ro n g i → ¬ S i) : MH w' w'.heap.size oo op ro n g :=
  ⟨h.1.only ho fun hp => hn _ (.inl ⟨hp, rfl⟩), h.2.only ho fun i hi => hn i (.inr hi)⟩
theorem MD.only {w w' : World} {S : Nat → Prop} {lo n : Nat} {oo ro : Option Addr} {op : List Int} {g : Nat → Vw} (h : MD w lo oo op ro n g) (hm : MH w w.heap.size oo op ro n g) (ho : Only S w w') : MD w' lo oo op ro n g :=
  ⟨h.1.only hm.2 ho, fun hp => ⟨(h.2 hp).1, fun i => (ho.frozen _ (hm.1.lt hp)).trans ((h.2 hp).2.1 i), (h.2 hp).2.2⟩⟩
theorem MD.lower {w : World} {lo lo' n : Nat} {oo ro : Option Addr} {op : List Int} {g : Nat → Vw} (h : MD w lo oo op ro n g) (hl : lo' ≤ lo) : MD w lo' oo op ro n g :=
  ⟨⟨fun hp => ⟨Nat.le_trans hl (h.1.1 hp).1, (h.1.1 hp).2⟩, fun k hk hp => ⟨Nat.le_trans hl (h.1.2.1 k hk hp).1, (h.1.2.1 k hk hp).2⟩, h.1.2.2⟩, fun hp => ⟨Nat.le_trans hl (h.2 hp).1, (h.2 hp).2⟩⟩
/-- Marks are answered: these numbers, in memory of the call's own, each list in a block of its own. -/
def MkEnd (last : Int) (op : List Int) (cs : List Vc) (w : World) (v : Value) (w' : World) : Prop :=
  ∃ (oo : Option Addr) (oc : Nat) (ro : Option Addr) (rc n : Nat) (g : Nat → Vw), v = .agg #[.int .i64 last, .slice oo op.length oc, .slice ro n rc] ∧ conL n g = cs ∧ MH w' w'.heap.size oo op ro n g ∧ MD w' w.heap.size oo op ro n g ∧ Below w.heap.size w w'
/-- Marks are answered, wherever they lie. -/
def MrEnd (last : Int) (op : List Int) (cs : List Vc) (w : World) (v : Value) (w' : World) : Prop :=
  ∃ (oo : Option Addr) (oc : Nat) (ro : Option Addr) (rc n : Nat) (g : Nat → Vw), v = .agg #[.int .i64 last, .slice oo op.length oc, .slice ro n rc] ∧ conL n g = cs ∧ MH w' w'.heap.size oo op ro n g ∧ Below w.heap.size w w'
theorem MkEnd.mr {last : Int} {op : List Int} {cs : List Vc} {w w' : World} {v : Value} (h : MkEnd last op cs w v w') : MrEnd last op cs w v w' := by
  obtain ⟨oo, oc, ro, rc, n, g, h1, h2, h3, _, h5⟩ := h
  exact ⟨oo, oc, ro, rc, n, g, h1, h2, h3, h5⟩
theorem MkEnd.lower {last : Int} {op : List Int} {cs : List Vc} {w W w' : World} {v : Value} (h : MkEnd last op cs W v w') (hb : Below w.heap.size w W) : MkEnd last op cs w v w' := by
  obtain ⟨oo, oc, ro, rc, n, g, h1, h2, h3, h4, h5⟩ := h
  exact ⟨oo, oc, ro, rc, n, g, h1, h2, h3, h4.lower hb.size, hb.trans (h5.mono hb.size)⟩
theorem MrEnd.lower {last : Int} {op : List Int} {cs : List Vc} {w W w' : World} {v : Value} (h : MrEnd last op cs W v w') (hb : Below w.heap.size w W) : MrEnd last op cs w v w' := by
  obtain ⟨oo, oc, ro, rc, n, g, h1, h2, h3, h5⟩ := h
  exact ⟨oo, oc, ro, rc, n, g, h1, h2, h3, hb.trans (h5.mono hb.size)⟩
theorem conL_inj {n n' : Nat} {g g' : Nat → Vw} (h : conL n g = conL n' g') : n = n' ∧ ∀ k, k < n → (g k).con = (g' k).con := by
  have hl := congrArg List.length h
  rw [conL_len, conL_len] at hl
  refine ⟨hl, fun k hk => ?_⟩
  have h1 : vat (conL n g) k = vat (conL n' g') k := by rw [h]
  rwa [conL_at hk, conL_at (by omega)] at h1

set_option maxRecDepth 100000 in
theorem szMk (last : Int) (oo : Option Addr) (oc : Nat) (op : List Int) (ro : Option Addr) (rc n : Nat) (g : Nat → Vw) (hp : op.length ≤ maxLen) (hn : n ≤ maxLen) (hm : ∀ k, k < n → (g k).xs.length ≤ maxLen) (w : World) (h : MH w w.heap.size oo op ro n g) :
    Calls Try.prog 11 #[.agg #[.int .i64 last, .slice oo op.length oc, .slice ro n rc], .int .i64 1048576] w fun e w' => SzEnd 1048576 (op.length + (n + sumV g n)) e ∧ Below w.heap.size w w' := by
  have HB0 := Lib.hid ((Below.refl w.heap.size w).alloc (Nat.le_refl _) (.cells #[.int .i64 last, .slice oo op.length oc, .slice ro n rc] 25))
  have H0 := Lib.hid (h.2.after HB0.out)
  have HC := Lib.hid (fun W => szI oo oc op.length 1048576 hp (by omega) (by omega) W)
  have HD := Lib.hid (fun r h0 h1 W hW => szVS ro rc n g r hn hm h0 h1 W hW)
  clear h hp hn hm
  generalize op.length = m at HC HB0 H0 ⊢
  generalize sumV g n = s at HD
  go_enter Try.func11, Try.ntmps11
  go_wp2_with fail
  refine (HC.out _).mono ?_
  rintro e w1 ⟨rfl | ⟨r, hr0, hr, rfl⟩, rfl⟩
  · go_wp2
    go_ret
    exact ⟨.inl rfl, HB0.out⟩
  · have HR := Lib.hid hr
    have hr1 : ¬ r < 0 := by omega
    have HD := Lib.hid (HD.out r hr0 (by omega))
    clear hr
    go_wp2_with fail
    refine (HD.out _ H0.out).mono ?_
    rintro e w2 ⟨rfl | ⟨r', hr0', hr', rfl⟩, hb2⟩
    · have HB2 := Lib.hid (HB0.out.trans (hb2.mono HB0.out.size))
      clear hb2
      go_wp2
      go_ret
      exact ⟨.inl rfl, HB2.out⟩
    · have HB2 := Lib.hid (HB0.out.trans (hb2.mono HB0.out.size))
      have HE : Hid (r' + ((m + (n + s) : Nat) : Int) = 1048576) := Lib.hid (by have := HR.out; omega)
      have hr2 : ¬ r' < 0 := by omega
      clear hb2 hr'
      go_wp2
      go_ret
      exact ⟨.inr ⟨r', hr0', HE.out, rfl⟩, HB2.out⟩

set_option maxHeartbeats 4000000 in
set_option maxRecDepth 100000 in
theorem toMk (last : Int) (oo : Option Addr) (oc : Nat) (op : List Int) (ro : Option Addr) (rc n : Nat) (g : Nat → Vw) (hp : op.length ≤ 1048576) (hn : n ≤ 1048576) (hm : ∀ k, k < n → (g k).xs.length ≤ 1048576) (w : World) (h : MH w w.heap.size oo op ro n g) :
    Calls Try.prog 13 #[.agg #[.int .i64 last, .slice oo op.length oc, .slice ro n rc]] w fun e w' => ∃ v, e = .returned v ∧ MkEnd last op (conL n g) w v w' := by
  have hb0 := (((Below.refl w.heap.size w).alloc (Nat.le_refl _) (.cells #[.int .i64 last, .slice oo op.length oc, .slice ro n rc] 25)).alloc (by simp) (.cells #[.int .i64 0, .slice none 0 0, .slice none 0 0] 30)).alloc (by simp; omega) (.cells #[.int .i64 last, .slice none 0 0, .slice none 0 0] 30)
  have HX0 := Lib.hid (((B3.new w (.int .i64 last) (.slice oo op.length oc) (.slice ro n rc) 25).alloc (.cells #[.int .i64 0, .slice none 0 0, .slice none 0 0] 30)).alloc (.cells #[.int .i64 last, .slice none 0 0, .slice none 0 0] 30))
  have HX1 := Lib.hid ((B3.new (w.alloc (.cells #[.int .i64 last, .slice oo op.length oc, .slice ro n rc] 25)) (.int .i64 0) (.slice none 0 0) (.slice none 0 0) 30).alloc (.cells #[.int .i64 last, .slice none 0 0, .slice none 0 0] 30))
  have HX2 := Lib.hid (B3.new ((w.alloc (.cells #[.int .i64 last, .slice oo op.length oc, .slice ro n rc] 25)).alloc (.cells #[.int .i64 0, .slice none 0 0, .slice none 0 0] 30)) (.int .i64 last) (.slice none 0 0) (.slice none 0 0) 30)
  have HB0 := Lib.hid hb0
  have HT := Lib.hid (toInts oo oc op hp _ (h.1.below hb0.size hb0))
  have HV := Lib.hid (fun W hW => toVS ro rc n g hn hm W hW)
  have H2 := Lib.hid h.2
  have HIn := Lib.hid h.1.1
  rw [World.size_alloc] at HX1
  rw [World.size_alloc, World.size_alloc] at HX2
  have hsz : (((w.alloc (.cells #[.int .i64 last, .slice oo op.length oc, .slice ro n rc] 25)).alloc (.cells #[.int .i64 0, .slice none 0 0, .slice none 0 0] 30)).alloc (.cells #[.int .i64 last, .slice none 0 0, .slice none 0 0] 30)).heap.size = w.heap.size + 1 + 1 + 1 := by simp
  have HSz := Lib.hid hsz
  clear h hb0 hp hn hm hsz
  go_enter Try.func13, Try.ntmps13
  go_wp2_with fail
  obtain ⟨W, hW⟩ : ∃ W, W = ((w.alloc (.cells #[.int .i64 last, .slice oo op.length oc, .slice ro n rc] 25)).alloc (.cells #[.int .i64 0, .slice none 0 0, .slice none 0 0] 30)).alloc (.cells #[.int .i64 last, .slice none 0 0, .slice none 0 0] 30) := ⟨_, rfl⟩
  rw [← hW] at HX0 HX1 HX2 HB0 HT HSz ⊢
  clear hW
  refine HT.out.mono ?_
  rintro e w1 ⟨rfl, hR, hb1⟩
  have h0 := HX0.out.below hb1
  have h1 := HX1.out.below hb1
  have h2 := HX2.out.below hb1
  have hs := HSz.out
  obtain ⟨x0, x1, x2⟩ := h0.cells
  obtain ⟨y0, y1, y2⟩ := h2.cells
  have g1 := h2.free 1
  have hs1 := hb1.size
  have hge : w.heap.size + 1 + 1 < W.heap.size := by omega
  generalize W.heap.size = s at hR hge hs1
  have HR := Lib.hid (hR.other (p := ⟨w.heap.size + 1 + 1, 1, none⟩) (.slice (some ⟨s, 0, none⟩) op.length op.length) (by show s ≠ w.heap.size + 1 + 1; omega))
  have HB1 := Lib.hid ((HB0.out.trans (hb1.mono HB0.out.size)).setCell (p := ⟨w.heap.size + 1 + 1, 1, none⟩) (by show w.heap.size ≤ w.heap.size + 1 + 1; omega) (.slice (some ⟨s, 0, none⟩) op.length op.length))
  have HX1 := Lib.hid (h1.other (p := ⟨w.heap.size + 1 + 1, 1, none⟩) (by show w.heap.size + 1 ≠ w.heap.size + 1 + 1; omega) (.slice (some ⟨s, 0, none⟩) op.length op.length))
  have HX2 := Lib.hid (h2.set1 (.slice (some ⟨s, 0, none⟩) op.length op.length))
  have HS1 := Lib.hid hge
  have HS2 : Hid (s < w1.heap.size) := Lib.hid hR.lt
  clear h0 h1 h2 hs hR hb1 HSz HT HX0 HB0 hs1
  go_wp2_with fail
  refine (HV.out _ (H2.out.below HB1.out.size HB1.out)).mono ?_
  rintro e w2 ⟨bo, c, g', rfl, hcon, hF, hD, hb2⟩
  have h1 := HX1.out.below hb2
  have h2 := HX2.out.below hb2
  obtain ⟨z0, z1, z2⟩ := h1.cells
  obtain ⟨y0', y1', y2'⟩ := h2.cells
  have f0 := h1.free 0; have f1 := h1.free 1; have f2 := h1.free 2; have g2 := h2.free 2
  have hsz1 : (w1.setCell ⟨w.heap.size + 1 + 1, 1, none⟩ (.slice (some ⟨s, 0, none⟩) op.length op.length)).heap.size = w1.heap.size := by simp [World.setCell]
  rw [hsz1] at hD
  have HE : Hid (∀ w3, Only (fun i => i = w.heap.size + 1 ∨ i = w.heap.size + 1 + 1) w2 w3 → MkEnd last op (conL n g) w (.agg #[.int .i64 last, .slice (some ⟨s, 0, none⟩) op.length op.length, .slice bo n c]) w3) := Lib.hid (fun w3 ho => by
    have hI := ((HR.out.irow HIn.out).after hb2)
    have hS1 := HS1.out
    have hS2 := HS2.out
    have hM : MH w2 w2.heap.size (some ⟨s, 0, none⟩) op bo n g' := ⟨hI, hF⟩
    have hge : ∀ i, VS bo n g' i → w1.heap.size ≤ i := hD.ge
    have hMD : MD w2 w.heap.size (some ⟨s, 0, none⟩) op bo n g' := ⟨⟨fun hp => ⟨by have := (hD.1 hp).1; omega, (hD.1 hp).2⟩, fun k hk hp => ⟨by have := (hD.2.1 k hk hp).1; omega, (hD.2.1 k hk hp).2⟩, hD.2.2⟩, fun hp => ⟨by show w.heap.size ≤ s; omega, (HR.out.below hb2).frozen, fun hv => by have := hge _ hv; change w1.heap.size ≤ s at this; omega⟩⟩
    have hno : ∀ i, MS (some ⟨s, 0, none⟩) op bo n g' i → ¬ (i = w.heap.size + 1 ∨ i = w.heap.size + 1 + 1) := by
      rintro i (⟨_, hi⟩ | hv) hh
      · change i = s at hi; omega
      · have := hge i hv; omega
    have hbl : Below w.heap.size w w2 := HB1.out.trans (hb2.mono HB1.out.size)
    exact ⟨_, _, _, _, n, g', rfl, conL_congr hcon, hM.only ho hno, hMD.only hM ho, hbl.trans (ho.below (B := w.heap.size) (fun i _ hi => by omega) hbl.size)⟩)
  clear h1 h2 hcon hF hD hb2 hsz1 HX1 HX2 HR HB1 HV H2
  go_wp2
  exact bodyPost_ret (v := .agg #[.int .i64 last, .slice (some ⟨s, 0, none⟩) op.length op.length, .slice bo n c]) (by simp [results, Try.results13, go_sem, z0, z1, z2]) rfl ⟨_, rfl, HE.out _ ((((Only.set _ _ (.inr rfl)).trans (Only.set _ _ (.inl rfl))).trans (Only.set _ _ (.inl rfl))).trans (Only.set _ _ (.inl rfl)))⟩
end Go.Proofs.Ytabkjjbhnapgpaa
