/- Contracts of packing samples in the model, over this seat's translation: the chunk of samples, or that there is none. -/
import Derived.Test.YteiefngamccapaaPc
namespace Go.Proofs.Yteiefngamccapaa
open Go.RowKit Go.Deep

theorem ret_ch {c d : Chk} (h : c = d) : Ending.returned (chV c) = .returned (chV d) := by rw [h]
theorem pk_chunk {l : List Smp} {s : ByteArray} {a b : Int} {n m : Nat} (hn : n = l.length) (hm : n = m + 1) (hs : s = strP l) (ha : a = tF l 0) (hb : b = tF l m) : Ending.returned (.agg #[.string s, .int .i64 (n : Int), .int .i64 a, .int .i64 b]) = .returned (chV (pkC l)) := by
  rw [pkC_some (by omega), hs, ha, hb, hn, show l.length - 1 = m by omega]; rfl

set_option maxHeartbeats 4000000 in
set_option maxRecDepth 100000 in
theorem pack77 (ao : Option Addr) (cap : Nat) (l : List Smp) (hF : FitS l) (h8 : l.length ≤ 8) (w : World) (h : SRow w w.heap.size ao l) :
    Calls Try.prog 89 #[.slice ao l.length cap] w fun e w' => e = .returned (chV (pkC l)) ∧ Below w.heap.size w w' := by
  have HB0 := Lib.hid ((Below.refl w.heap.size w).alloc (Nat.le_refl _) (.cells #[zS, zI, zI, zI] 85))
  have HX0 := Lib.hid (Bx.new w zS zI zI zI 85)
  have H := Lib.hid h
  have HF := Lib.hid hF
  have HT := Lib.hid (fit_times hF)
  clear h hF
  by_cases h0 : l.length = 0
  · have HY : Hid (Ending.returned (.agg #[zS, zI, zI, zI]) = .returned (chV (pkC l))) := Lib.hid (by rw [List.eq_nil_of_length_eq_zero h0]; rfl)
    rw [h0]
    go_enter Try.func89, Try.ntmps89
    go_wp2
    exact bodyPost_ret (v := .agg #[zS, zI, zI, zI]) (by simp [results, Try.results89, go_sem]) rfl ⟨HY.out, HB0.out⟩
  obtain ⟨m, hm⟩ : ∃ m, l.length = m + 1 := ⟨l.length - 1, by omega⟩
  obtain ⟨b, off, hao, hbl0, hc⟩ := H.out.tv (by omega)
  have hbne : w.heap.size ≠ b := by omega
  have HC := Lib.hid hc
  have hne : ((l.length : Int) == 0) = false := beq_eq_false_iff_ne.2 (by omega)
  have HM := Lib.hid hm
  subst hao
  clear hc h0 hm
  obtain ⟨i0, hi, hz0, hz1, hz2⟩ := info_parts Try.info3
  have hst := @run_store_float Try.prog
  go_enter Try.func89, Try.ntmps89
  go_wp2_with fail
  generalize w.alloc (.cells #[zS, zI, zI, zI] 85) = W0 at HB0 HX0 ⊢
  go_loopw [3, 4, 5, 15] (fun v s q i wr => ∃ k : Nat, k ≤ l.length ∧ i = .int .i64 k ∧ s = .string (txK l k) ∧ q = .int .u64 (prevV l k : Nat) ∧ Hid (TmInv W0 l k v wr)) (fun _ _ _ i _ => l.length - (intOf i).toNat)
  case atStart => exact ⟨0, Nat.zero_le _, rfl, by rw [txK_zero], by rw [prevV_zero]; rfl, Lib.hid (tm_zero W0 W0 l (Below.refl _ _))⟩
  case round =>
    obtain ⟨k, hk, rfl, rfl, rfl, hI⟩ := hrel
    have HBk := Lib.hid (HB0.out.trans (hI.out.2.mono HB0.out.size))
    by_cases hlt : k < l.length
    · have c0 := (HBk.out.cell (p := ⟨b, off + k * 2, none⟩) hbl0).trans (HC.out k hlt).1
      have c1 := (HBk.out.cell (p := ⟨b, off + k * 2 + 1, none⟩) hbl0).trans (HC.out k hlt).2
      have HX := Lib.hid (xor_run (vF_lt HF.out k) (prevV_lt HF.out k))
      have HXl := Lib.hid (xor_lt64 (vF_lt HF.out k) (prevV_lt HF.out k))
      have HPs := Lib.hid (prevV_succ l k)
      have HE := Lib.hid (txK_succ hlt)
      have hz : (txK l k).size ≤ 80 := by rw [txK_size]; have := tailK_len l k; omega
      unfold fxV at HE
      obtain ⟨t, ht⟩ : ∃ t, t = tF l k := ⟨_, rfl⟩
      rw [← ht] at c0
      have HStep := Lib.hid (fun (w4 : World) (v' : Value) (o o' : Obj) ho' hg => tm_step (w4 := w4) (v' := v') (o := o) (o' := o') hlt ht hI.out ho' hg)
      have HO := Lib.hid hI.out.1
      have hsz := hI.out.2.size
      clear ht
      generalize vF l k = x at c1 HE HX HXl HPs
      generalize prevV l k = p at HE HX HXl ⊢
      generalize txK l k = T at hz HE ⊢
      have hW := Lib.hid (show (wr.alloc (.cells #[.int .i64 t, .float .f64 x] 42)).cell? ⟨wr.heap.size, 1, none⟩ = some (.float .f64 x) from box_two.2)
      go_wp2_with (at_builtin; refine wpList_append_own _ rfl _ _ 47 rfl W0.heap.size 3 i0 (.int .i64 0) 1 8 Try.underlying47 hi hz0 hz1 hz2 rfl (by decide) _ _ _ rfl ((HO.out.alloc _).alloc _) ⟨wr.heap.size + 1, 0, none⟩ 1 1 [.int .i64 t] rfl rfl new_cell1 ?c2 ?c3 ?c4 ?c5 ?_)
      case c2 => intro u hu; simp at hu; subst hu; rfl
      case c3 => unfold maxLen; omega
      case c4 => omega
      case c5 => simp; omega
      intro v' w4 hown' hgrow _
      have HI4 := Lib.hid (HStep.out _ _ _ _ hown' hgrow)
      have hv4 : w4.cell? ⟨wr.heap.size, 1, none⟩ = some (.float .f64 x) := by
        have h1 := hgrow.block wr.heap.size (by simp; omega) (by
          intro e
          have := (HO.out.lt wr.heap.size e.symm).2
          omega)
        have h2 : ((wr.alloc (.cells #[.int .i64 t, .float .f64 x] 42)).alloc (.cells #[.int .i64 t] 3)).heap[wr.heap.size]? = some (.cells #[.int .i64 t, .float .f64 x] 42) := (Below.heap_alloc _ _ wr.heap.size (by simp)).trans (blk_alloc_new _ _)
        simp [World.cell?, h1.trans h2]
      clear hown' hgrow
      go_wp2_with fail
      refine (bits20 x _).mono ?_
      rintro e w7 ⟨rfl, rfl⟩
      have hxor := HX.out
      generalize x ^^^ p = y at HE hxor HXl
      go_wp2_with fail
      refine (flip23 y HXl.out _).mono ?_
      rintro e w8 ⟨rfl, rfl⟩
      have HFl := Lib.hid (flipN_lt y)
      generalize flipN y = z at HE HFl
      go_wp2_with fail
      refine (put39 z HFl.out _).mono ?_
      rintro e w9 ⟨rfl, hb9⟩
      have hzz := putV_ten HFl.out
      rw [← txtV_size] at hzz
      have HI9 : Hid (TmInv W0 l (k + 1) v' w9) := Lib.hid ⟨own_below HI4.out.1 hb9, HI4.out.2.trans (hb9.mono HI4.out.2.size)⟩
      clear hb9 hv4
      generalize txtV z = U at hzz HE
      go_wp2
      go_roundw
      case rel => exact ⟨k + 1, by omega, by go_num, by rw [HE.out], by rw [HPs.out], HI9⟩
      case measure => simp [intOf]; omega
    · obtain rfl : k = l.length := by omega
      have hm := HM.out
      obtain ⟨ao1, cp1, hv1, hR1⟩ := IRow.of_own HT.out (tm_all hI.out)
      subst hv1
      have HX1 := Lib.hid (HX0.out.below hI.out.2)
      have HSm := Lib.hid (strE_small HT.out (by simpa using h8))
      have hml : (l.map (·.1)).length = l.length := by simp
      have HR1 := Lib.hid (fun (W : World) (hb : Below wr.heap.size wr W) => hR1.after hb)
      have HCall := Lib.hid (fun W hW => list53 ao1 cp1 (l.map (·.1)) (by rw [hml]; omega) W hW)
      have hT : (txK l l.length).size ≤ 80 := by rw [txK_size]; have := tailK_len l l.length; omega
      have hE := HSm.out
      have c0 := (HBk.out.cell (p := ⟨b, off + 0 * 2, none⟩) hbl0).trans (HC.out 0 (by omega)).1
      have c1 := (HBk.out.cell (p := ⟨b, off + m * 2, none⟩) hbl0).trans (HC.out m (by omega)).1
      simp only [Nat.zero_mul, Nat.add_zero] at c0
      have hbl : b < wr.heap.size := Nat.lt_of_lt_of_le hbl0 HBk.out.size
      have HEq := Lib.hid (strE_txK l)
      have HY := Lib.hid (fun (s : ByteArray) (x y : Int) (n : Nat) (hn : n = l.length) => pk_chunk (s := s) (a := x) (b := y) hn (hn.trans hm))
      clear hR1 hI
      generalize (l.map (·.1)).length = n1 at hml HCall ⊢
      clear hml
      obtain ⟨n, hn⟩ : ∃ n, n = l.length := ⟨_, rfl⟩
      have hwr : IntKind.i64.wrap ((n : Int) - 1) = m := by rw [show (n : Int) - 1 = m by omega]; exact IntWalk.i64_in _ (by omega)
      have hm0 : (0 : Int) ≤ m := by omega
      have hm1 : (m : Int) < n := by omega
      have hn0 : 0 < n := by omega
      have HY2 := Lib.hid (fun (s : ByteArray) (x y : Int) => HY.out s x y n hn)
      rw [← hn] at hT HEq hne h8 ⊢
      obtain ⟨x0, hx0⟩ : ∃ x, x = tF l 0 := ⟨_, rfl⟩
      obtain ⟨x1, hx1⟩ : ∃ x, x = tF l m := ⟨_, rfl⟩
      rw [← hx0] at c0 HY2
      rw [← hx1] at c1 HY2
      obtain ⟨S, hS⟩ : ∃ S, S = strE (l.map (·.1)) := ⟨_, rfl⟩
      obtain ⟨T, hTT⟩ : ∃ T, T = txK l n := ⟨_, rfl⟩
      rw [← hS] at HCall HEq hE
      rw [← hTT] at hT HEq ⊢
      have HYY := Lib.hid (HY2.out (S ++ T) x0 x1 HEq.out rfl rfl)
      have hadd : ∀ (W : World), (Op.stringOp .add S T).run Try.prog W = .ok (.string (S ++ T)) W := fun W => run_string_add W S T (by omega) (by omega)
      clear hx0 hx1 hS hTT HY HY2 hm HM hn HEq HSm HX0 HC HF HT H hk hlt hbl0 hst hi hz0 hz1 hz2
      go_wp2_with fail
      go_region_held3 (fun w' => w'.cell? ⟨b, off, none⟩ = some (.int .i64 x0) ∧ w'.cell? ⟨b, off + m * 2, none⟩ = some (.int .i64 x1)) (first | exact ⟨by assumption, by assumption⟩ | exact ⟨far4 hbne (by assumption), far4 hbne (by assumption)⟩) (first | (go_at_call 104; refine (HCall.out _ (HR1.out _ (Below.refl _ _).drew)).mono ?_; rintro e w2 ⟨rfl, hb2'⟩; have hb2 := (Below.refl wr.heap.size wr).drew.trans hb2'; clear hb2'; have c0' := (hb2.cell (p := ⟨b, off, none⟩) hbl).trans c0; have c1' := (hb2.cell (p := ⟨b, off + m * 2, none⟩) hbl).trans c1; obtain ⟨y0, y1, y2, y3, g0, g1, g2, g3⟩ := (HX1.out.below hb2).cells))
      have hbs := HBk.out.trans (hb2.mono HBk.out.size)
      clear hb2 c0' c1'
      go_wp2
      exact bodyPost_ret (v := .agg #[.string (S ++ T), .int .i64 n, .int .i64 x0, .int .i64 x1]) (by simp [results, Try.results89, go_sem, y0, y1, y2, y3]) rfl ⟨HYY.out, (((hbs.setCell (Nat.le_refl _) _).setCell (Nat.le_refl _) _).setCell (Nat.le_refl _) _).setCell (Nat.le_refl _) _⟩
end Go.Proofs.Yteiefngamccapaa
