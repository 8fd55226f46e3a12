/- Contract of the comparison of labels in the model, over this seat's translation: cmpLs. -/
import Derived.Test.YtoelcbfbpijfcaaDoorCmp
import Derived.Deep.DeepCutAuto
namespace Go.Proofs.YtoelcbfbpijfcaaDoor
open Go.RowKit Go.Deep

theorem lab_less {x1 x2 y1 y2 : ByteArray} (h : less x1 y1 = true) : cmpLab (x1, x2) (y1, y2) = -1 := by simp [cmpLab, cmpB_eq, h]
theorem lab_same {x1 x2 y1 y2 : ByteArray} (h : (x1.toList == y1.toList) = true) : cmpLab (x1, x2) (y1, y2) = cmpB x2 y2 := by simp [cmpLab, cmpB_eq x1 y1, less_irrefl' h, h]
theorem lab_more {x1 x2 y1 y2 : ByteArray} (h : less x1 y1 = false) (h' : (x1.toList == y1.toList) = false) : cmpLab (x1, x2) (y1, y2) = 1 := by simp [cmpLab, cmpB_eq x1 y1, h, h']

theorem neq31 (a b c d : ByteArray) (w : World) : (binOp .neq 31 (.agg #[.string a, .string b]) (.agg #[.string c, .string d])).run Tryd.prog w = .ok (.bool (!((a.toList == c.toList) && (b.toList == d.toList)))) w := by
  have u9 := Tryd.underlying9
  have a9 := Tryd.isAgg9
  have z9 := Tryd.sizeOf9
  have hS : Tryd.prog.underlying 31 = some (.struct (Tryd.prog.fieldsOf 31)) := by kernel_rfl
  have hp : Tryd.prog.stoodInHeld 31 = false := by kernel_rfl
  rw [run_neq_struct, show (10000 : Nat) = 9999 + 1 from rfl, run_equalIn_struct w 9999 31 _ _ hS hp]
  simp only [Program.fieldsOf, Tryd.underlying31]
  go_simp
  by_cases h1 : a.toList = c.toList <;> by_cases h2 : b.toList = d.toList <;> simp [h1, h2]

set_option maxHeartbeats 4000000 in
set_option maxRecDepth 100000 in
theorem cmp69 (ao bo : Option Addr) (c d : Nat) (a b : List Lab) (hn : a.length ≤ 1048576) (hm : b.length ≤ 1048576) (w : World) (h : LRow w w.heap.size ao a) (h2 : LRow w w.heap.size bo b) :
    Calls Tryd.prog 69 #[.slice ao a.length c, .slice bo b.length d] w fun e w' => e = .returned (.int .i64 (cmpLs a b)) ∧ Below w.heap.size w w' := by
  have H := Lib.hid h
  have H2 := Lib.hid h2
  clear h h2
  have hneq := neq31
  go_enter Tryd.func69, Tryd.ntmps69
  go_wp2
  go_loopw [5] (fun i wr => ∃ k : Nat, k ≤ a.length ∧ k ≤ b.length ∧ i = .int .i64 k ∧ Hid (cmpLs a b = cmpLs (a.drop k) (b.drop k)) ∧ Hid (Below w.heap.size w wr)) (fun i _ => a.length - (intOf i).toNat)
  case atStart => exact ⟨0, Nat.zero_le _, Nat.zero_le _, rfl, rfl, Below.refl _ _⟩
  case round =>
    obtain ⟨k, hk, hk2, rfl, hG, hb⟩ := hrel
    by_cases hlt : k < a.length
    · by_cases hlb : k < b.length
      · obtain ⟨g, off, hao, hbl, hc⟩ := H.out (by omega)
        subst hao
        have c0 := (hb.out.cell (p := ⟨g, off + k * 2, none⟩) hbl).trans (hc k hlt).1
        have c1 := (hb.out.cell (p := ⟨g, off + k * 2 + 1, none⟩) hbl).trans (hc k hlt).2
        clear hc
        obtain ⟨g', off', hbo, hbl', hc'⟩ := H2.out (by omega)
        subst hbo
        have d0 := (hb.out.cell (p := ⟨g', off' + k * 2, none⟩) hbl').trans (hc' k hlb).1
        have d1 := (hb.out.cell (p := ⟨g', off' + k * 2 + 1, none⟩) hbl').trans (hc' k hlb).2
        have hg' : g' < wr.heap.size := Nat.lt_of_lt_of_le hbl' hb.out.size
        have HS := Lib.hid (fun h => hG.out.trans (cmpLs_step hlt hlb h))
        have HT := Lib.hid (fun h => hG.out.trans (cmpLs_stop hlt hlb h))
        clear hc'
        generalize a[k] = x at c0 c1 HS HT
        generalize b[k] = y at d0 d1 HS HT
        obtain ⟨x1, x2⟩ := x
        obtain ⟨y1, y2⟩ := y
        dsimp only at c0 c1 d0 d1
        go_upto_region 4 with fail
        go_cut [6, 7] (fun s6 s7 wx => ∃ p q : Nat, s6 = .pointer (some ⟨p, 0, none⟩) ∧ s7 = .pointer (some ⟨q, 0, none⟩) ∧ wx.cell? ⟨p, 0, none⟩ = some (.string x1) ∧ wx.cell? ⟨p, 1, none⟩ = some (.string x2) ∧ wx.cell? ⟨q, 0, none⟩ = some (.string y1) ∧ wx.cell? ⟨q, 1, none⟩ = some (.string y2) ∧ Hid (Below w.heap.size w wx))
        case first =>
          go_region_held3 (fun w' => w'.cell? ⟨g, off + k * 2, none⟩ = some (.string x1) ∧ w'.cell? ⟨g, off + k * 2 + 1, none⟩ = some (.string x2) ∧ w'.cell? ⟨g', off' + k * 2, none⟩ = some (.string y1) ∧ w'.cell? ⟨g', off' + k * 2 + 1, none⟩ = some (.string y2)) (go_keep) (first | fail)
          · go_wp2_with fail
            go_meet
            exact ⟨wr.heap.size, wr.heap.size + 1, rfl, rfl, by simp, by simp, by simp, by simp, (hb.out.trans ((below_two wr _ _).mono hb.out.size)).drew⟩
          · go_wp2_with fail
            go_meet
            exact ⟨wr.heap.size + 1, wr.heap.size, rfl, rfl, by simp, by simp, by simp, by simp, (hb.out.trans ((below_two wr _ _).mono hb.out.size)).drew⟩
        case rest =>
          obtain ⟨p, q, rfl, rfl, p0, p1, q0, q1, hbx⟩ := hcut
          clear c0 c1 d0 d1
          by_cases l1 : less x1 y1 = true
          · have hl1 : Op.bytesLess x1.toList y1.toList = true := l1
            have HC := Lib.hid (lab_less (x2 := x2) (y2 := y2) l1)
            have HE := Lib.hid (HT.out (by rw [HC.out]; decide))
            clear l1
            go_wp2
            go_ret
            exact ⟨ret_int (by rw [HE.out, HC.out]), hbx.out⟩
          have l1 : less x1 y1 = false := by simpa using l1
          have hl1 : Op.bytesLess x1.toList y1.toList = false := l1
          by_cases e1 : (x1.toList == y1.toList) = true
          case neg =>
            have e1 : (x1.toList == y1.toList) = false := by simpa using e1
            have HC := Lib.hid (lab_more (x2 := x2) (y2 := y2) l1 e1)
            have HE := Lib.hid (HT.out (by rw [HC.out]; decide))
            clear l1
            go_wp2
            go_ret
            exact ⟨ret_int (by rw [HE.out, HC.out]), hbx.out⟩
          have HC := Lib.hid ((lab_same (x2 := x2) (y2 := y2) e1).trans (cmpB_eq _ _))
          clear l1
          by_cases l2 : less x2 y2 = true
          · have hl2 : Op.bytesLess x2.toList y2.toList = true := l2
            have HE := Lib.hid (HT.out (by rw [HC.out, l2]; simp))
            have HV : Hid (cmpLab (x1, x2) (y1, y2) = -1) := by unfold Hid; rw [HC.out, l2]; rfl
            clear l2
            go_wp2
            go_ret
            exact ⟨ret_int (by rw [HE.out, HV.out]), hbx.out⟩
          have l2 : less x2 y2 = false := by simpa using l2
          have hl2 : Op.bytesLess x2.toList y2.toList = false := l2
          by_cases e2 : (x2.toList == y2.toList) = true
          · have HV : Hid (cmpLab (x1, x2) (y1, y2) = 0) := by unfold Hid; rw [HC.out, l2, e2]; rfl
            have HE := Lib.hid (HS.out HV.out)
            clear l2
            go_wp2
            go_roundw
            case rel => exact ⟨k + 1, by omega, by omega, by go_num, HE, hbx⟩
            case measure => simp [intOf]; omega
          · have e2 : (x2.toList == y2.toList) = false := by simpa using e2
            have HV : Hid (cmpLab (x1, x2) (y1, y2) = 1) := by unfold Hid; rw [HC.out, l2, e2]; rfl
            have HE := Lib.hid (HT.out (by rw [HV.out]; decide))
            clear l2
            go_wp2
            go_ret
            exact ⟨ret_int (by rw [HE.out, HV.out]), hbx.out⟩
      · have HE := Lib.hid (hG.out.trans (cmpLs_long hlt (by omega)))
        obtain rfl : k = b.length := by omega
        have hlt' : ¬ a.length < b.length := by omega
        go_wp2
        go_ret
        exact ⟨ret_int HE.out.symm, hb.out⟩
    · by_cases hlb : a.length < b.length
      · have HE := Lib.hid (hG.out.trans (cmpLs_short (by omega) (by omega)))
        go_wp2
        go_ret
        exact ⟨ret_int HE.out.symm, hb.out⟩
      · have HE := Lib.hid (hG.out.trans (cmpLs_same (by omega) (by omega)))
        have hle : ¬ b.length < a.length := by omega
        go_wp2
        go_ret
        exact ⟨ret_int HE.out.symm, hb.out⟩

theorem comp23 (ao bo : Option Addr) (c d : Nat) (a b : List Lab) (hF : Fit a) (hF2 : Fit b) (w : World) (h : LRow w w.heap.size ao a) (h2 : LRow w w.heap.size bo b) :
    Calls Tryd.prog 23 #[.slice ao a.length c, .slice bo b.length d] w fun e w' => e = .returned (.tuple #[.int .i64 (resC a b), .bool (okC a b)]) ∧ Below w.heap.size w w' := by
  have H := Lib.hid h
  have H2 := Lib.hid h2
  clear h h2
  go_enter Tryd.func23, Tryd.ntmps23
  go_wp2_with fail
  refine (good68 ao c a hF _ H.out).mono ?_
  rintro e w1 ⟨rfl, hb⟩
  have HB := Lib.hid hb
  clear hb
  by_cases hg : goodB a = true
  case neg =>
    have hg : goodB a = false := by simpa using hg
    have HO : Hid (okC a b = false) := by simp [Hid, okC, hg]
    have HR : Hid (resC a b = 0) := by unfold Hid resC; rw [HO.out]; rfl
    go_wp2
    go_ret2
    exact ⟨ret_intb HR.out.symm HO.out.symm, HB.out⟩
  go_wp2_with fail
  refine (good68 bo d b hF2 _ (H2.out.after HB.out)).mono ?_
  rintro e w2 ⟨rfl, hb⟩
  replace HB := Lib.hid (HB.out.trans (hb.mono HB.out.size))
  clear hb
  by_cases hg2 : goodB b = true
  case neg =>
    have hg2 : goodB b = false := by simpa using hg2
    have HO : Hid (okC a b = false) := by simp [Hid, okC, hg2]
    have HR : Hid (resC a b = 0) := by unfold Hid resC; rw [HO.out]; rfl
    go_wp2
    go_ret2
    exact ⟨ret_intb HR.out.symm HO.out.symm, HB.out⟩
  have HO : Hid (okC a b = true) := by simp [Hid, okC, hg, hg2]
  have HR : Hid (resC a b = cmpLs a b) := by unfold Hid resC; rw [HO.out]; rfl
  go_wp2_with fail
  refine (cmp69 ao bo c d a b hF.1 hF2.1 _ (H.out.after HB.out) (H2.out.after HB.out)).mono ?_
  rintro e w3 ⟨rfl, hb⟩
  replace HB := Lib.hid (HB.out.trans (hb.mono HB.out.size))
  clear hb
  go_wp2
  go_ret2
  exact ⟨ret_intb HR.out.symm HO.out.symm, HB.out⟩
end Go.Proofs.YtoelcbfbpijfcaaDoor
