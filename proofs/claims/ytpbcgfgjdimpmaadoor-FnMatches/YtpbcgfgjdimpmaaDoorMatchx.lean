/- Contracts of Matches and MatchesAll, in the program and in the model, over this seat's translation. -/
import Derived.Test.YtpbcgfgjdimpmaaDoorGoodx
import Derived.Deep.RegionHeld3
namespace Go.Proofs.YtpbcgfgjdimpmaaDoor
open Go.RowKit Go.Deep

def matchB (l : List Lab) (k : Int) (n s : ByteArray) : Bool := goodB l && matB (k, n, s)
def matchV (l : List Lab) (k : Int) (n s : ByteArray) : Bool := goodB l && (matB (k, n, s) && takesB k s (isL l n))
theorem matchV_no {l : List Lab} {k : Int} {n s : ByteArray} (h : goodB l = false) : matchV l k n s = false ∧ matchB l k n s = false := by simp [matchV, matchB, h]
theorem matchV_no2 {l : List Lab} {k : Int} {n s : ByteArray} (h : matB (k, n, s) = false) : matchV l k n s = false ∧ matchB l k n s = false := by simp [matchV, matchB, h]
theorem matchV_yes {l : List Lab} {k : Int} {n s : ByteArray} (h : goodB l = true) (h2 : matB (k, n, s) = true) : matchV l k n s = takesB k s (isL l n) ∧ matchB l k n s = true := by simp [matchV, matchB, h, h2]

set_option maxHeartbeats 4000000 in
set_option maxRecDepth 100000 in
theorem matches32 (ao : Option Addr) (cap : Nat) (l : List Lab) (hF : Fit l) (k : Int) (n s : ByteArray) (hs : s.size ≤ 1048576) (w : World) (hT : Tabs w) (hM : MaxC w) (h : LRow w w.heap.size ao l) :
    Calls Tryd.prog 32 #[.slice ao l.length cap, matV k n s] w fun e w' => e = .returned (.tuple #[.bool (matchV l k n s), .bool (matchB l k n s)]) ∧ Below w.heap.size w w' := by
  have H := Lib.hid h
  clear h
  have hn := hF.1
  have HB := Lib.hid ((Below.refl w.heap.size w).alloc (Nat.le_refl _) (.cells #[.int .i64 k, .string n, .string s] 43))
  go_enter Tryd.func32, Tryd.ntmps32
  go_wp2_with fail
  refine (good19 ao cap l hn _ (hT.below' HB.out) (H.out.after HB.out)).mono ?_
  rintro e w1 ⟨rfl, hb⟩
  have HB1 := Lib.hid (HB.out.trans (hb.mono HB.out.size))
  have HV1 := Lib.hid hb
  obtain ⟨k1, k2, k3⟩ := box3_cells hb
  clear hb
  by_cases hg : goodB l = true
  case neg =>
    have hg : goodB l = false := by simpa using hg
    have HF := Lib.hid (matchV_no (k := k) (n := n) (s := s) hg)
    go_wp2
    go_ret2
    exact ⟨ret_bb HF.out.1.symm HF.out.2.symm, HB1.out⟩
  go_wp2_with fail
  refine (good82 k n s _ (hT.below' HB1.out)).mono ?_
  rintro e w2 ⟨rfl, hb⟩
  have HB2 := Lib.hid (HB1.out.trans (hb.mono HB1.out.size))
  have HV2 := Lib.hid (HV1.out.trans (hb.mono HV1.out.size))
  clear hb k1 k2 k3
  obtain ⟨k1, k2, k3⟩ := box3_cells HV2.out
  by_cases hm : matB (k, n, s) = true
  case neg =>
    have hm : matB (k, n, s) = false := by simpa using hm
    have HF := Lib.hid (matchV_no2 (l := l) hm)
    go_wp2
    go_ret2
    exact ⟨ret_bb HF.out.1.symm HF.out.2.symm, HB2.out⟩
  have HF := Lib.hid (matchV_yes hg hm)
  go_wp2_with fail
  refine (match83 ao cap l hF hg k n s (mat_kind hm) hs _ (hT.below' HB2.out) (hM.below' HB2.out) (H.out.after HB2.out)).mono ?_
  rintro e w3 ⟨rfl, hb⟩
  have HB3 := Lib.hid (HB2.out.trans (hb.mono HB2.out.size))
  clear hb
  go_wp2
  go_ret2
  exact ⟨ret_bb HF.out.1.symm HF.out.2.symm, HB3.out⟩

set_option maxHeartbeats 4000000 in
set_option maxRecDepth 100000 in
theorem matches33 (ao : Option Addr) (cap : Nat) (l : List Lab) (hF : Fit l) (k : Int) (n s : ByteArray) (hz : n.size ≤ 1048576) (hs : s.size ≤ 1048576) (w : World) (h : LRow w w.heap.size ao l) :
    Calls Tryd.prog 33 #[.slice ao l.length cap, matV k n s] w fun e w' => e = .returned (.tuple #[.bool (matchV l k n s), .bool (matchB l k n s)]) ∧ Below w.heap.size w w' := by
  have H := Lib.hid h
  clear h
  have hn := hF.1
  have ht : (isL l n).size ≤ 1048576 := isL_size (fun x hx => (hF.2 x hx).2)
  have HB := Lib.hid ((Below.refl w.heap.size w).alloc (Nat.le_refl _) (.cells #[.int .i64 k, .string n, .string s] 43))
  go_enter Tryd.func33, Tryd.ntmps33
  go_wp2_with fail
  refine (good68 ao cap l hF _ (H.out.after HB.out)).mono ?_
  rintro e w1 ⟨rfl, hb⟩
  have HB1 := Lib.hid (HB.out.trans (hb.mono HB.out.size))
  have HV1 := Lib.hid hb
  obtain ⟨k1, k2, k3⟩ := box3_cells hb
  clear hb
  by_cases hg : goodB l = true
  case neg =>
    have hg : goodB l = false := by simpa using hg
    have HF := Lib.hid (matchV_no (k := k) (n := n) (s := s) hg)
    go_wp2
    go_ret2
    exact ⟨ret_bb HF.out.1.symm HF.out.2.symm, HB1.out⟩
  go_wp2_with fail
  refine (good84 k n s hz hs _).mono ?_
  rintro e w2 ⟨rfl, hb⟩
  have HB2 := Lib.hid (HB1.out.trans (hb.mono HB1.out.size))
  have HV2 := Lib.hid (HV1.out.trans (hb.mono HV1.out.size))
  clear hb k1 k2 k3
  obtain ⟨k1, k2, k3⟩ := box3_cells HV2.out
  by_cases hm : matB (k, n, s) = true
  case neg =>
    have hm : matB (k, n, s) = false := by simpa using hm
    have HF := Lib.hid (matchV_no2 (l := l) hm)
    go_wp2
    go_ret2
    exact ⟨ret_bb HF.out.1.symm HF.out.2.symm, HB2.out⟩
  have HF := Lib.hid (matchV_yes hg hm)
  have HK := Lib.hid (mat_kind hm)
  have HL2 := Lib.hid (H.out.after HB2.out)
  have hlt : w.heap.size < w2.heap.size := by have := HV2.out.size; simp at this; omega
  go_wp2_with fail
  clear hg hm
  go_region_held3 (fun w' => w'.cell? ⟨w.heap.size, 0, none⟩ = some (.int .i64 k) ∧ w'.cell? ⟨w.heap.size, 1, none⟩ = some (.string n) ∧ w'.cell? ⟨w.heap.size, 2, none⟩ = some (.string s)) (exact ⟨by assumption, by assumption, by assumption⟩) (first | (go_at_call 75; refine (is81 ao cap l hn n _ (HL2.out.drewN 1)).mono ?_; rintro e w3 ⟨rfl, hb3⟩; have k1' := (hb3.cell (p := ⟨w.heap.size, 0, none⟩) hlt).trans k1; have k2' := (hb3.cell (p := ⟨w.heap.size, 1, none⟩) hlt).trans k2; have k3' := (hb3.cell (p := ⟨w.heap.size, 2, none⟩) hlt).trans k3; have hlt3 : w.heap.size < w3.heap.size := Nat.lt_of_lt_of_le hlt hb3.size) | (go_at_call 85; refine (match85 k n s (isL l n) HK.out hs ht _).mono ?_; rintro e w4 ⟨rfl, hb4⟩; have k1'' := (hb4.cell (p := ⟨w.heap.size, 0, none⟩) hlt3).trans k1'; have k2'' := (hb4.cell (p := ⟨w.heap.size, 1, none⟩) hlt3).trans k2'; have k3'' := (hb4.cell (p := ⟨w.heap.size, 2, none⟩) hlt3).trans k3'))
  have HB4 := Lib.hid ((below_drewN HB2.out 1).trans ((hb3.trans (hb4.mono hb3.size)).mono HB2.out.size))
  clear hb3 hb4
  go_wp2
  go_ret2
  exact ⟨ret_bb HF.out.1.symm HF.out.2.symm, HB4.out⟩

def matchOne (l : List Lab) (x : Mat) : Bool := takesB x.1 x.2.2 (isL l x.2.1)
def allB2 (l : List Lab) (ms : List Mat) : Bool := goodB l && goodMs ms
def allV2 (l : List Lab) (ms : List Mat) : Bool := goodB l && (goodMs ms && ms.all (matchOne l))
theorem allV_no {l : List Lab} {ms : List Mat} (h : goodB l = false) : allV2 l ms = false ∧ allB2 l ms = false := by simp [allV2, allB2, h]
theorem allV_no2 {l : List Lab} {ms : List Mat} (h : goodMs ms = false) : allV2 l ms = false ∧ allB2 l ms = false := by simp [allV2, allB2, h]
theorem allV_yes {l : List Lab} {ms : List Mat} (h : goodB l = true) (h2 : goodMs ms = true) : allV2 l ms = ms.all (matchOne l) ∧ allB2 l ms = true := by simp [allV2, allB2, h, h2]
theorem goodMs_kind {ms : List Mat} (h : goodMs ms = true) : ∀ k (hk : k < ms.length), kindB (ms[k]'hk).1 = true := by
  intro k hk
  unfold goodMs at h
  simp only [Bool.and_eq_true, List.all_eq_true] at h
  have := h.2 _ (List.getElem_mem hk)
  unfold matB at this
  simp only [Bool.and_eq_true] at this
  exact this.1

set_option maxHeartbeats 4000000 in
set_option maxRecDepth 100000 in
theorem all36 (ao bo : Option Addr) (cap dap : Nat) (l : List Lab) (hF : Fit l) (ms : List Mat) (hFM : FitM ms) (w : World) (hT : Tabs w) (hM : MaxC w) (h : LRow w w.heap.size ao l) (hm : MRow w w.heap.size bo ms) :
    Calls Tryd.prog 36 #[.slice ao l.length cap, .slice bo ms.length dap] w fun e w' => e = .returned (.tuple #[.bool (allV2 l ms), .bool (allB2 l ms)]) ∧ Below w.heap.size w w' := by
  have H := Lib.hid h
  have HMr := Lib.hid hm
  clear h hm
  have hn := hF.1
  have hn2 := hFM.1
  go_enter Tryd.func36, Tryd.ntmps36
  go_wp2_with fail
  refine (good19 ao cap l hn _ hT H.out).mono ?_
  rintro e w1 ⟨rfl, hb⟩
  have HB1 := Lib.hid hb
  clear hb
  by_cases hg : goodB l = true
  case neg =>
    have hg : goodB l = false := by simpa using hg
    have HF := Lib.hid (allV_no (ms := ms) hg)
    go_wp2
    go_ret2
    exact ⟨ret_bb HF.out.1.symm HF.out.2.symm, HB1.out⟩
  go_wp2_with fail
  refine (good38 bo dap ms hn2 _ (hT.below' HB1.out) (HMr.out.after HB1.out)).mono ?_
  rintro e w2 ⟨rfl, hb⟩
  have HB2 := Lib.hid (HB1.out.trans (hb.mono HB1.out.size))
  clear hb
  by_cases hgm : goodMs ms = true
  case neg =>
    have hgm : goodMs ms = false := by simpa using hgm
    have HF := Lib.hid (allV_no2 (l := l) hgm)
    go_wp2
    go_ret2
    exact ⟨ret_bb HF.out.1.symm HF.out.2.symm, HB2.out⟩
  have HF := Lib.hid (allV_yes hg hgm)
  have HK := Lib.hid (goodMs_kind hgm)
  have HG := Lib.hid hg
  go_wp2
  clear hg hgm
  go_loopw [18] (fun i wr => ∃ k : Nat, k ≤ ms.length ∧ i = .int .i64 k ∧ Hid (mAll (matchOne l) ms k) ∧ Hid (Below w.heap.size w wr)) (fun i _ => ms.length - (intOf i).toNat)
  case atStart => exact ⟨0, Nat.zero_le _, rfl, rfl, HB2⟩
  case round =>
    obtain ⟨k, hk, rfl, hG, hb⟩ := hrel
    by_cases hlt : k < ms.length
    · obtain ⟨b, off, hao, hbl, hc⟩ := HMr.out (by omega)
      subst hao
      have c0 := (hb.out.cell (p := ⟨b, off + k * 3, none⟩) hbl).trans (hc k hlt).1
      have c1 := (hb.out.cell (p := ⟨b, off + k * 3 + 1, none⟩) hbl).trans (hc k hlt).2.1
      have c2 := (hb.out.cell (p := ⟨b, off + k * 3 + 2, none⟩) hbl).trans (hc k hlt).2.2
      have hz := hFM.at hlt
      have HS := Lib.hid (fun hx => mAll_succ hG.out hlt hx)
      have HN := Lib.hid (fun hx => mAll_no hG.out hlt hx)
      have hkk := HK.out k hlt
      have HB3 := Lib.hid (hb.out.alloc (hb.out.size) (.cells #[.int .i64 ms[k].1, .string ms[k].2.1, .string ms[k].2.2] 43))
      clear hc
      generalize ms[k] = x at c0 c1 c2 HS HN HB3 hz hkk
      obtain ⟨x0, x1, x2⟩ := x
      go_wp2_with fail
      refine (match83 ao cap l hF HG.out x0 x1 x2 hkk hz.2 _ (hT.below' HB3.out) (hM.below' HB3.out) (H.out.after HB3.out)).mono ?_
      rintro e w3 ⟨rfl, hb3⟩
      have HB4 := Lib.hid (HB3.out.trans (hb3.mono HB3.out.size))
      clear hb3
      by_cases hq : takesB x0 x2 (isL l x1) = true
      · have HG2 := Lib.hid (HS.out hq)
        go_wp2
        go_roundw
        case rel => exact ⟨k + 1, by omega, by go_num, HG2, HB4⟩
        case measure => simp [intOf]; omega
      · have hq : takesB x0 x2 (isL l x1) = false := by simpa using hq
        have HQ := Lib.hid (HN.out hq)
        go_wp2
        go_ret2
        exact ⟨ret_bb (by rw [HF.out.1, HQ.out]) HF.out.2.symm, HB4.out⟩
    · obtain rfl : k = ms.length := by omega
      have HQ := Lib.hid (mAll_end hG.out)
      go_wp2
      go_ret2
      exact ⟨ret_bb (by rw [HF.out.1, HQ.out]) HF.out.2.symm, hb.out⟩

set_option maxHeartbeats 4000000 in
set_option maxRecDepth 100000 in
theorem all89 (ao bo : Option Addr) (cap dap : Nat) (l : List Lab) (hF : Fit l) (ms : List Mat) (hFM : FitM ms) (hK : ∀ k (hk : k < ms.length), kindB (ms[k]'hk).1 = true) (w : World) (h : LRow w w.heap.size ao l) (hm : MRow w w.heap.size bo ms) :
    Calls Tryd.prog 89 #[.slice ao l.length cap, .slice bo ms.length dap] w fun e w' => e = .returned (.bool (ms.all (matchOne l))) ∧ Below w.heap.size w w' := by
  have H := Lib.hid h
  have HMr := Lib.hid hm
  have HK := Lib.hid hK
  clear h hm hK
  have hn := hF.1
  have hn2 := hFM.1
  go_enter Tryd.func89, Tryd.ntmps89
  go_wp2
  go_loopw [9] (fun i wr => ∃ k : Nat, k ≤ ms.length ∧ i = .int .i64 k ∧ Hid (mAll (matchOne l) ms k) ∧ Hid (Below w.heap.size w wr)) (fun i _ => ms.length - (intOf i).toNat)
  case atStart => exact ⟨0, Nat.zero_le _, rfl, rfl, Below.refl _ _⟩
  case round =>
    obtain ⟨k, hk, rfl, hG, hb⟩ := hrel
    by_cases hlt : k < ms.length
    · obtain ⟨b, off, hao, hbl, hc⟩ := HMr.out (by omega)
      subst hao
      have c0 := (hb.out.cell (p := ⟨b, off + k * 3, none⟩) hbl).trans (hc k hlt).1
      have c1 := (hb.out.cell (p := ⟨b, off + k * 3 + 1, none⟩) hbl).trans (hc k hlt).2.1
      have c2 := (hb.out.cell (p := ⟨b, off + k * 3 + 2, none⟩) hbl).trans (hc k hlt).2.2
      have hz := hFM.at hlt
      have HS := Lib.hid (fun hx => mAll_succ hG.out hlt hx)
      have HN := Lib.hid (fun hx => mAll_no hG.out hlt hx)
      have hkk := HK.out k hlt
      have HB3 := Lib.hid (hb.out.alloc (hb.out.size) (.cells #[.int .i64 ms[k].1, .string ms[k].2.1, .string ms[k].2.2] 43))
      clear hc
      generalize ms[k] = x at c0 c1 c2 HS HN HB3 hz hkk
      obtain ⟨x0, x1, x2⟩ := x
      have ht : (isL l x1).size ≤ 1048576 := isL_size (fun x hx => (hF.2 x hx).2)
      go_wp2_with fail
      obtain ⟨k1, k2, k3⟩ := box3_cells (wr := wr) (k := x0) (x1 := x1) (x2 := x2) (t := 43) (Below.refl _ _)
      have hltw : wr.heap.size < (wr.alloc (.cells #[.int .i64 x0, .string x1, .string x2] 43)).heap.size := by simp
      generalize wr.alloc (.cells #[.int .i64 x0, .string x1, .string x2] 43) = w2 at HB3 k1 k2 k3 hltw ⊢
      have HL2 := Lib.hid (H.out.after HB3.out)
      go_region_held3 (fun w' => w'.cell? ⟨wr.heap.size, 0, none⟩ = some (.int .i64 x0) ∧ w'.cell? ⟨wr.heap.size, 1, none⟩ = some (.string x1) ∧ w'.cell? ⟨wr.heap.size, 2, none⟩ = some (.string x2)) (exact ⟨by assumption, by assumption, by assumption⟩) (first | (go_at_call 75; refine (is81 ao cap l hn x1 _ (HL2.out.drewN 1)).mono ?_; rintro e w3 ⟨rfl, hb3⟩; have k1' := (hb3.cell (p := ⟨wr.heap.size, 0, none⟩) hltw).trans k1; have k2' := (hb3.cell (p := ⟨wr.heap.size, 1, none⟩) hltw).trans k2; have k3' := (hb3.cell (p := ⟨wr.heap.size, 2, none⟩) hltw).trans k3; have hlt3 : wr.heap.size < w3.heap.size := Nat.lt_of_lt_of_le hltw hb3.size) | (go_at_call 85; refine (match85 x0 x1 x2 (isL l x1) hkk hz.2 ht _).mono ?_; rintro e w4 ⟨rfl, hb4⟩; have k1'' := (hb4.cell (p := ⟨wr.heap.size, 0, none⟩) hlt3).trans k1'; have k2'' := (hb4.cell (p := ⟨wr.heap.size, 1, none⟩) hlt3).trans k2'; have k3'' := (hb4.cell (p := ⟨wr.heap.size, 2, none⟩) hlt3).trans k3'))
      have HB4 := Lib.hid ((below_drewN HB3.out 1).trans ((hb3.trans (hb4.mono hb3.size)).mono HB3.out.size))
      clear hb3 hb4
      by_cases hq : takesB x0 x2 (isL l x1) = true
      · have HG2 := Lib.hid (HS.out hq)
        rw [hq]
        go_wp2
        go_roundw
        case rel => exact ⟨k + 1, by omega, by go_num, HG2, HB4⟩
        case measure => simp [intOf]; omega
      · have hq : takesB x0 x2 (isL l x1) = false := by simpa using hq
        have HQ := Lib.hid (HN.out hq)
        rw [hq]
        go_wp2
        go_ret
        exact ⟨ret_bool HQ.out.symm, HB4.out⟩
    · obtain rfl : k = ms.length := by omega
      have HQ := Lib.hid (mAll_end hG.out)
      go_wp2
      go_ret
      exact ⟨ret_bool HQ.out.symm, hb.out⟩

set_option maxHeartbeats 4000000 in
set_option maxRecDepth 100000 in
theorem all37 (ao bo : Option Addr) (cap dap : Nat) (l : List Lab) (hF : Fit l) (ms : List Mat) (hFM : FitM ms) (w : World) (h : LRow w w.heap.size ao l) (hm : MRow w w.heap.size bo ms) :
    Calls Tryd.prog 37 #[.slice ao l.length cap, .slice bo ms.length dap] w fun e w' => e = .returned (.tuple #[.bool (allV2 l ms), .bool (allB2 l ms)]) ∧ Below w.heap.size w w' := by
  have H := Lib.hid h
  have HMr := Lib.hid hm
  clear h hm
  go_enter Tryd.func37, Tryd.ntmps37
  go_wp2_with fail
  refine (good68 ao cap l hF _ H.out).mono ?_
  rintro e w1 ⟨rfl, hb⟩
  have HB1 := Lib.hid hb
  clear hb
  by_cases hg : goodB l = true
  case neg =>
    have hg : goodB l = false := by simpa using hg
    have HF := Lib.hid (allV_no (ms := ms) hg)
    go_wp2
    go_ret2
    exact ⟨ret_bb HF.out.1.symm HF.out.2.symm, HB1.out⟩
  go_wp2_with fail
  refine (good88 bo dap ms hFM _ (HMr.out.after HB1.out)).mono ?_
  rintro e w2 ⟨rfl, hb⟩
  have HB2 := Lib.hid (HB1.out.trans (hb.mono HB1.out.size))
  clear hb
  by_cases hgm : goodMs ms = true
  case neg =>
    have hgm : goodMs ms = false := by simpa using hgm
    have HF := Lib.hid (allV_no2 (l := l) hgm)
    go_wp2
    go_ret2
    exact ⟨ret_bb HF.out.1.symm HF.out.2.symm, HB2.out⟩
  have HF := Lib.hid (allV_yes hg hgm)
  go_wp2_with fail
  refine (all89 ao bo cap dap l hF ms hFM (goodMs_kind hgm) _ (H.out.after HB2.out) (HMr.out.after HB2.out)).mono ?_
  rintro e w3 ⟨rfl, hb⟩
  have HB3 := Lib.hid (HB2.out.trans (hb.mono HB2.out.size))
  clear hb
  go_wp2
  go_ret2
  exact ⟨ret_bb HF.out.1.symm HF.out.2.symm, HB3.out⟩
end Go.Proofs.YtpbcgfgjdimpmaaDoor
