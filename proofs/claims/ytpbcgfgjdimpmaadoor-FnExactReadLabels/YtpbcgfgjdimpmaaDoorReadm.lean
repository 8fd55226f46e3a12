/- Contract of the model's reading of labels, over this seat's translation: DRAFT, not clean (one sorry: the append at the round's end). -/
import Derived.Test.YtpbcgfgjdimpmaaDoorReadl
import Derived.StillTailTactics
namespace Go.Proofs.YtpbcgfgjdimpmaaDoor
open Go.RowKit Go.Deep

theorem src_new (w : World) (a b : Value) : Src (w.alloc (.cells #[a, b] 82)) (some ⟨w.heap.size, 0, none⟩) 1 [a, b] := by
  refine ⟨rfl, fun ad had j u hj => ?_⟩
  injection had with had
  subst had
  exact new_pair j u hj
set_option maxHeartbeats 8000000 in
set_option maxRecDepth 100000 in
theorem read36 (s : ByteArray) (hs : s.size ≤ 1048576) (w : World) : Calls Tryd.prog 23 #[.string s] w (ReadEnd s.data.toList w) := by
  have hDs := size_len s
  by_cases h12 : 2 ≤ s.size ∧ s.size ≤ 400
  case neg =>
    have hd : (decide ((2 : Int) ≤ (s.size : Int)) && decide ((s.size : Int) ≤ 400)) = false := by simp; omega
    have HD := Lib.hid hd
    have HE : Hid (ReadEnd s.data.toList w (.returned (.tuple #[.slice none 0 0, .bool false])) w) := Lib.hid (readEnd_no (fun o ho => by have := read_len ho; omega) (Below.refl _ _))
    clear hd hDs
    go_enter Tryd.func23, Tryd.ntmps23
    go_wp2_with fail
    refine (in79 _ _ _ _).mono ?_
    rw [HD.out]
    rintro e w1 ⟨rfl, rfl⟩
    go_wp2
    go_ret2
    exact HE.out
  obtain ⟨h2, h400⟩ := h12
  have hd : (decide ((2 : Int) ≤ (s.size : Int)) && decide ((s.size : Int) ≤ 400)) = true := by simp; omega
  have HD := Lib.hid hd
  have h0 : 0 < s.size := by omega
  obtain ⟨m, hm⟩ : ∃ m, m + 1 = s.size := ⟨s.size - 1, by omega⟩
  have hl : m < s.size := by omega
  have hm1 : 1 ≤ m := by omega
  have hm2 : (1 : Int) ≤ (m : Int) := by omega
  have hm3 : (m : Int) ≤ (s.size : Int) := by omega
  have hwr : IntKind.i64.wrap ((s.size : Int) - 1) = (m : Int) := by rw [IntWalk.i64_in _ (by omega)]; omega
  have HM := Lib.hid hm
  clear hm
  have HDs := Lib.hid hDs
  clear hd hDs
  by_cases hf : s[0]'h0 = 123
  case neg =>
    have hq : (((s[0]'h0).toNat : Int) != 123) = true := by rw [bne_iff_ne]; intro h; exact hf (UInt8.toNat_inj.1 (by have h' : (s[0]'h0).toNat = 123 := (by omega); rw [h']; rfl))
    have HE : Hid (ReadEnd s.data.toList w (.returned (.tuple #[.slice none 0 0, .bool false])) w) := Lib.hid (readEnd_no (fun o ho => hf (read_first ho (by rw [← HDs.out]; exact h0))) (Below.refl _ _))
    clear hf
    go_enter Tryd.func23, Tryd.ntmps23
    go_wp2_with fail
    refine (in79 _ _ _ _).mono ?_
    rw [HD.out]
    rintro e w1 ⟨rfl, rfl⟩
    go_wp2
    go_ret2
    exact HE.out
  have hq0 : (((s[0]'h0).toNat : Int) != 123) = false := by rw [hf]; rfl
  have HF := Lib.hid hf
  clear hf
  by_cases hg : s[m]'hl = 125
  case neg =>
    have hq : (((s[m]'hl).toNat : Int) != 125) = true := by rw [bne_iff_ne]; intro h; exact hg (UInt8.toNat_inj.1 (by have h' : (s[m]'hl).toNat = 125 := (by omega); rw [h']; rfl))
    have HE : Hid (ReadEnd s.data.toList w (.returned (.tuple #[.slice none 0 0, .bool false])) w) := Lib.hid (readEnd_no (fun o ho => hg ((last_conv HM.out hl (by rw [← HDs.out]; omega)).trans (read_last ho _))) (Below.refl _ _))
    clear hg
    go_enter Tryd.func23, Tryd.ntmps23
    go_wp2_with fail
    refine (in79 _ _ _ _).mono ?_
    rw [HD.out]
    rintro e w1 ⟨rfl, rfl⟩
    go_wp2
    go_ret2
    exact HE.out
  have hq1 : (((s[m]'hl).toNat : Int) != 125) = false := by rw [hg]; rfl
  have HG : Hid (s.data.toList[s.data.toList.length - 1]'(by rw [← HDs.out]; omega) = 125) := Lib.hid ((last_conv HM.out hl (by rw [← HDs.out]; omega)).symm.trans hg)
  clear hg
  by_cases h22 : s.size = 2
  · have HE : Hid (ReadEnd s.data.toList w (.returned (.tuple #[.slice none 0 0, .bool true])) w) := Lib.hid (readEnd_yes (read_two (by rw [← HDs.out]; exact h22) HF.out HG.out) (World.ownsRow_nil _ _ _ _) (Below.refl _ _))
    have h22' : ((s.size : Int) == 2) = true := by simp; omega
    clear h22
    go_enter Tryd.func23, Tryd.ntmps23
    go_wp2_with fail
    refine (in79 _ _ _ _).mono ?_
    rw [HD.out]
    rintro e w1 ⟨rfl, rfl⟩
    go_wp2
    go_ret2
    exact HE.out
  have h22' : ((s.size : Int) == 2) = false := by simp; omega
  go_enter Tryd.func23, Tryd.ntmps23
  go_wp2_with fail
  refine (in79 _ _ _ _).mono ?_
  rw [HD.out]
  rintro e w1 ⟨rfl, rfl⟩
  go_wp2_with fail
  have hez : (s.extract 1 m).size ≤ 400 := by rw [ByteArray.size_extract]; omega
  refine (split44 (s.extract 1 m) (by omega) w).mono ?_
  rw [inner_extract HM.out]
  rintro e w2 ⟨v2, rfl, ho2, hb2⟩
  have HPL := Lib.hid (pieces_le (b := 44) (inner s.data.toList))
  have HNo : Hid (∀ k (hk : k < (pieces 44 (inner s.data.toList)).length), badItem (pieces 34 (pieces 44 (inner s.data.toList))[k]) → ∀ o, ¬ Reads s.data.toList o) := Lib.hid fun k hk hbad => no_item (by rw [← HDs.out]; exact h22) hk hbad
  have HYes : Hid (∀ o, o.map labT = pieces 44 (inner s.data.toList) → goodB o = true → Reads s.data.toList o) := Lib.hid fun o ho hg => reads_of (by rw [← HDs.out]; exact h2) HF.out HG.out ho hg
  have HNg : Hid (∀ o, (∀ x ∈ o, Itemed x) → o.map labT = pieces 44 (inner s.data.toList) → goodB o = false → ∀ q, ¬ Reads s.data.toList q) := Lib.hid fun o hit ho hg q hq => by
    by_cases e : q = []
    · have := text_len q
      rw [hq.2, e] at this
      exact h22 (by rw [HDs.out, this]; rfl)
    · have h1 := ho.trans (reads_items hq e)
      have := items_inj hit (fun x hx => item_pieces (good_labs hq.1 x hx)) h1
      rw [this, hq.1] at hg
      cases hg
  have hil : (inner s.data.toList).length ≤ 400 := by
    have e1 : (s.extract 1 m).size = (s.extract 1 m).data.toList.length := size_len _
    rw [inner_extract HM.out] at e1
    omega
  generalize pieces 44 (inner s.data.toList) = ws at ho2 HPL HNo HYes HNg
  have hwl : ws.length ≤ 401 := by have := HPL.out.1; omega
  have HWp : Hid (∀ p ∈ ws, p.length ≤ 400) := Lib.hid fun p hp => by have := HPL.out.2 p hp; omega
  obtain ⟨va, vc, rfl, hR⟩ := cut_row ho2
  have HRow := Lib.hid hR
  have HB := Lib.hid hb2
  clear ho2 hb2 hR HPL hez hil h22 h22' hq0 hq1
  obtain ⟨i0, hi0, hz0, hz1, hz2⟩ := info_parts Tryd.info82
  go_wp2_with fail
  go_loopw [5, 34] (fun v i wr => ∃ (k : Nat) (o : List Lab), k ≤ ws.length ∧ o.length = k ∧ i = .int .i64 k ∧ Hid (o.map labT = ws.take k) ∧ Hid (∀ x ∈ o, Itemed x) ∧ Hid (wr.ownsRow w2.heap.size 82 2 v o.length (cellsOf o)) ∧ Hid (Below w2.heap.size w2 wr)) (fun _ i _ => ws.length - (intOf i).toNat)
  case atStart => exact ⟨0, [], Nat.zero_le _, rfl, rfl, by simp [Hid], (fun x hx => by simp at hx), World.ownsRow_nil _ _ _ _, Below.refl _ _⟩
  case round =>
    obtain ⟨k, o, hk, hok, rfl, hM, hIt, hO, hb⟩ := hrel
    by_cases hlt : k < ws.length
    · obtain ⟨g, off, hao, hgl, hc⟩ := HRow.out (by rw [bs_len]; omega)
      subst hao
      have hc0 := hc k (by rw [bs_len]; exact hlt)
      rw [bs_at hlt] at hc0
      have c0 := (hb.out.cell (p := ⟨g, off + k, none⟩) hgl).trans hc0
      have hpl := HWp.out _ (List.getElem_mem hlt)
      have HNk := Lib.hid (HNo.out k hlt)
      have HTk : Hid (∀ x, labT x = ws[k] → ∀ o' : List Lab, o'.map labT = ws.take k → (o' ++ [x]).map labT = ws.take (k + 1)) := Lib.hid fun x hx o' ho' => by
        rw [List.map_append, ho', List.take_succ_eq_append_getElem hlt, ← hx]; rfl
      clear hc hc0
      generalize ws[k] = wk at c0 hpl HNk HTk
      have hsz : (⟨wk.toArray⟩ : ByteArray).size ≤ 1048576 := by rw [size_len]; simp; omega
      have HBw := Lib.hid (HB.out.trans (hb.out.mono HB.out.size))
      go_wp2_with fail
      refine (split34 ⟨wk.toArray⟩ hsz _).mono ?_
      rintro e w3 ⟨v3, rfl, ho3, hb3⟩
      have hwk : (⟨wk.toArray⟩ : ByteArray).data.toList = wk := by simp
      rw [hwk] at ho3
      have HGe := Lib.hid (fun g hg => (ho3.lt g hg).1)
      have HVl := Lib.hid (fun g hg => (hO.out.lt g hg).2)
      obtain ⟨pa, pc, rfl, hR3⟩ := cut_row ho3
      have HR3 := Lib.hid hR3
      replace HBw := Lib.hid (HBw.out.trans (hb3.mono HBw.out.size))
      have HB3 := Lib.hid (hb.out.trans (hb3.mono hb.out.size))
      have HO3 := Lib.hid (own_below hO.out hb3)
      have hPs := (pieces_le (b := 34) wk).1
      have HIO : Hid (∀ p0 p1 q : List UInt8, pieces 34 wk = [p0, p1, []] → p0 = q ++ [61] → labT (⟨q.toArray⟩, ⟨p1.toArray⟩) = wk) := Lib.hid fun p0 p1 q h hq => item_of h hq
      clear hwk ho3 hb3 hR3
      have HPk : Hid (pieces 34 wk = pieces 34 wk) := rfl
      generalize hps : pieces 34 wk = ps at HNk HR3 hPs
      have HPs := Lib.hid hps
      clear hps HPk
      by_cases h3 : ps.length = 3
      case neg =>
        have hq : ((ps.length : Int) != 3) = true := by rw [bne_iff_ne]; omega
        have HE : ∀ q, Hid (ReadEnd s.data.toList w (.returned (.tuple #[.slice none 0 0, .bool false])) (w3.drewN q)) := fun q => Lib.hid (readEnd_no (HNk.out (bad_len h3)) (below_drewN HBw.out q))
        have HE' := Lib.hid HE
        clear h3 HE
        go_wp2_with fail
        go_quiet (fail)
        go_wp2_with fail
        go_ret2
        exact (HE'.out _).out
      obtain ⟨y0, y1, y2, hps⟩ := three_of h3
      obtain ⟨g3, off3, hpa, hg3, hc3⟩ := HR3.out (by rw [bs_len]; omega)
      subst hpa
      rw [h3]
      subst hps
      have d0 : w3.cell? ⟨g3, off3, none⟩ = some (.string y0) := by have := hc3 0 (by simp [bs]); simpa [bs] using this
      have d1 : w3.cell? ⟨g3, off3 + 1, none⟩ = some (.string y1) := by have := hc3 1 (by simp [bs]); simpa [bs] using this
      have d2 : w3.cell? ⟨g3, off3 + 2, none⟩ = some (.string y2) := by have := hc3 2 (by simp [bs]); simpa [bs] using this
      clear hc3 h3 HR3 hPs c0
      by_cases hy2 : 0 < y2.size
      · have he := nonempty_of hy2
        have HE' : Hid (∀ q, ReadEnd s.data.toList w (.returned (.tuple #[.slice none 0 0, .bool false])) (w3.drewN q)) := Lib.hid fun q => readEnd_no (HNk.out (bad_third hy2)) (below_drewN HBw.out q)
        go_wp2_with fail
        go_quiet (fail)
        go_wp2_with fail
        go_ret2
        exact HE'.out _
      have he := empty_of (s := y2) (by omega)
      have hy2e : Hid (y2.data.toList = []) := Lib.hid (List.eq_nil_of_length_eq_zero (by rw [← size_len]; omega))
      by_cases hy0 : y0.size < 2
      · have hyi : (y0.size : Int) < 2 := by omega
        have HE' : Hid (∀ q, ReadEnd s.data.toList w (.returned (.tuple #[.slice none 0 0, .bool false])) (w3.drewN q)) := Lib.hid fun q => readEnd_no (HNk.out (bad_short hy0)) (below_drewN HBw.out q)
        go_wp2_with fail
        go_quiet (fail)
        go_wp2_with fail
        go_ret2
        exact HE'.out _
      obtain ⟨m0, hm0⟩ : ∃ m0, m0 + 1 = y0.size := ⟨y0.size - 1, by omega⟩
      have hml : m0 < y0.size := by omega
      have hyb : y0.size ≤ 1048576 := by
        have e1 := size_len y0
        have := (pieces_le (b := 34) wk).2 y0.data.toList (by rw [HPs.out]; simp)
        omega
      have hwr0 : IntKind.i64.wrap ((y0.size : Int) - 1) = (m0 : Int) := by rw [IntWalk.i64_in _ (by omega)]; omega
      have hm03 : (m0 : Int) ≤ (y0.size : Int) := by omega
      have HM0 := Lib.hid hm0
      have hy3 : ¬ (y0.size : Int) < 2 := by omega
      have hy4 : decide (y0.size < 2) = false := by simpa using hy0
      have hm04 : 1 ≤ y0.size := by omega
      clear hm0
      by_cases hy61 : y0[m0]'hml = 61
      case neg =>
        have hq : (((y0[m0]'hml).toNat : Int) != 61) = true := by rw [bne_iff_ne]; intro h; exact hy61 (UInt8.toNat_inj.1 (by have h' : (y0[m0]'hml).toNat = 61 := (by omega); rw [h']; rfl))
        have HE' : Hid (∀ q, ReadEnd s.data.toList w (.returned (.tuple #[.slice none 0 0, .bool false])) (w3.drewN q)) := Lib.hid fun q => readEnd_no (HNk.out (bad_last HM0.out hml hy61)) (below_drewN HBw.out q)
        go_wp2_with fail
        go_quiet (fail)
        go_wp2_with fail
        go_ret2
        exact HE'.out _
      have hq : (((y0[m0]'hml).toNat : Int) != 61) = false := by rw [hy61]; rfl
      have HIt2 := Lib.hid (made_item (y1 := y1) HM0.out hml hy61 (by rw [HPs.out, hy2e.out]))
      clear hy61
      go_wp2_with fail
      go_quiet (fail)
      go_upto_region 13 with fail
      have d0' : (w3.drewN nq).cell? ⟨g3, off3, none⟩ = some (.string y0) := d0
      have d1' : (w3.drewN nq).cell? ⟨g3, off3 + 1, none⟩ = some (.string y1) := d1
      have HO4 : Hid ((w3.drewN nq).ownsRow w2.heap.size 82 2 _ o.length (cellsOf o)) := HO3
      have HB4 := Lib.hid (below_drewN HB3.out nq)
      have HBw4 := Lib.hid (below_drewN HBw.out nq)
      generalize w3.drewN nq = w4 at d0' d1' HO4 HB4 HBw4 ⊢
      clear d0 d1 d2
      have hg4 : g3 < w4.heap.size := World.block_lt_of_cell? w4 _ d0'
      have hge := HB4.out.size
      have hol : o.length + 1 ≤ 1048576 := by omega
      have hmN : m0 ≤ y0.size := by omega
      have hge3 := HGe.out g3 rfl
      have hneB : some g3 ≠ Value.ownBlock _ := fun e => by have := HVl.out g3 e.symm; omega
      have a0 := (((Below.refl w4.heap.size w4).alloc (Nat.le_refl _) (.cells #[.string (y0.extract 0 m0), .string y1] 82)).cell (p := ⟨g3, off3, none⟩) hg4).trans d0'
      have a1 := (((Below.refl w4.heap.size w4).alloc (Nat.le_refl _) (.cells #[.string (y0.extract 0 m0), .string y1] 82)).cell (p := ⟨g3, off3 + 1, none⟩) hg4).trans d1'
      go_region_held3 (fun w' => w'.cell? ⟨g3, off3, none⟩ = some (.string y0) ∧ w'.cell? ⟨g3, off3 + 1, none⟩ = some (.string y1)) (first | go_keep | exact ⟨e6, f6⟩) (first
        | (refine step_append_src _ rfl (.tmp 68) (.tmp 82) rfl rfl w2.heap.size _ o.length (cellsOf o) rfl (HO4.out.alloc _) (some ⟨w4.heap.size, 0, none⟩) 1 1 [.string (y0.extract 0 m0), .string y1] rfl (src_new w4 _ _) (fun h => by cases h) pair_one (by omega) (by simp; omega) ?_; intro v6 w6 hown6 hg6 hk6; have e6 := hg6.cell a0 hneB; have f6 := hg6.cell a1 hneB; have HG6 := Lib.hid hg6; have HO6 := Lib.hid hown6; clear hg6 hown6 hk6))
      have HVg := Lib.hid (fun g hg => (HO4.out.lt g hg).1)
      have HBz := Lib.hid ((HB4.out.alloc HB4.out.size (.cells #[.string (y0.extract 0 m0), .string y1] 82)).drew)
      have HB6 := Lib.hid (HBz.out.grown HG6.out HBz.out.size HVg.out)
      clear e6 f6 HG6 a0 a1 d0' d1'
      go_wp2
      go_roundw
      case rel => exact ⟨k + 1, o ++ [(y0.extract 0 m0, y1)], by omega, by simp; omega, by go_num, HTk.out _ HIt2.out.1 _ hM.out, fun x hx => by
          rcases List.mem_append.1 hx with hx | hx
          · exact hIt.out x hx
          · rw [List.mem_singleton.1 hx]; exact HIt2.out.2, by rw [cellsOf_append, List.length_append]; exact HO6.out, HB6⟩
      case measure => simp [intOf]; omega
    · obtain rfl : k = ws.length := by omega
      rw [List.take_length] at hM
      have HBw := Lib.hid (HB.out.trans (hb.out.mono HB.out.size))
      obtain ⟨oa, oc, hv⟩ := own_form hO.out
      subst hv
      have HL := Lib.hid (LRow.of_own hO.out).2
      have hol : o.length ≤ 401 := by omega
      clear hok
      have hfo := fit_items hM.out HWp.out hol
      go_wp2_with fail
      refine (good68 oa oc o hfo wr HL.out).mono ?_
      rintro e w4 ⟨rfl, hb4⟩
      have HO4 := Lib.hid (own_base (own_below hO.out hb4) HB.out.size)
      replace HBw := Lib.hid (HBw.out.trans (hb4.mono HBw.out.size))
      clear hb4
      cases hg : goodB o with
      | true =>
        have HE : Hid (ReadEnd s.data.toList w (.returned (.tuple #[.slice oa o.length oc, .bool true])) w4) := Lib.hid (readEnd_yes (HYes.out o hM.out hg) HO4.out HBw.out)
        clear hg
        go_wp2
        go_ret2
        exact HE.out
      | false =>
        have HE : Hid (ReadEnd s.data.toList w (.returned (.tuple #[.slice none 0 0, .bool false])) w4) := Lib.hid (readEnd_no (HNg.out o hIt.out hM.out hg) HBw.out)
        clear hg
        go_wp2
        go_ret2
        exact HE.out
end Go.Proofs.YtpbcgfgjdimpmaaDoor
