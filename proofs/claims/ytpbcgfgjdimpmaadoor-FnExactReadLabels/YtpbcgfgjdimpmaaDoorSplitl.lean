/- Reading labels back in the program: splitting a text into labels, and that the labels of a text come out of it, over this seat's translation. -/
import Derived.Test.YtpbcgfgjdimpmaaDoorReadm
import Derived.Test.YtpbcgfgjdimpmaaDoorForm
namespace Go.Proofs.YtpbcgfgjdimpmaaDoor
open Go.RowKit Go.Deep

def cutLab (p : List UInt8) : Lab := (⟨(Lib.cut p [61, 34]).1.toArray⟩, ⟨(Lib.trimSuffix (Lib.cut p [61, 34]).2.1 [34]).toArray⟩)
def insideL (D : List UInt8) : List UInt8 := Lib.trimSuffix (Lib.trimPrefix D [123]) [125]
def splitF (D : List UInt8) : List Lab := if insideL D = [] then [] else (pieces 44 (insideL D)).map cutLab
theorem cut_at {n r : List UInt8} (hn : ∀ c ∈ n, c ≠ 61) : (Lib.cut (n ++ ([61, 34] ++ r)) [61, 34]).1 = n ∧ (Lib.cut (n ++ ([61, 34] ++ r)) [61, 34]).2.1 = r := by
  unfold Lib.cut
  rcases Lib.index_spec (n ++ ([61, 34] ++ r)) [61, 34] with ⟨h1, h2⟩ | ⟨i, h1, h2, h3, h4⟩
  · exfalso
    have := h2 n.length (by simp)
    unfold Lib.occAt at this
    rw [List.drop_left, List.isPrefixOf_iff_prefix.2 (List.prefix_append _ _)] at this
    cases this
  · have hi : i = n.length := by
      rcases Nat.lt_trichotomy i n.length with hlt | heq | hgt
      · exfalso
        unfold Lib.occAt at h3
        obtain ⟨t, ht⟩ := List.isPrefixOf_iff_prefix.1 h3
        have h5 : (n ++ ([61, 34] ++ r))[i]? = some 61 := by
          have := congrArg List.head? ht
          rw [List.head?_drop] at this
          exact this.symm
        rw [List.getElem?_append_left hlt, List.getElem?_eq_getElem hlt] at h5
        exact hn _ (List.getElem_mem hlt) (Option.some.inj h5)
      · exact heq
      · exfalso
        have := h4 n.length hgt
        unfold Lib.occAt at this
        rw [List.drop_left, List.isPrefixOf_iff_prefix.2 (List.prefix_append _ _)] at this
        cases this
    rw [h1, if_pos (by omega)]
    subst hi
    simp
theorem trimSuf_self' (a b : List UInt8) : Lib.trimSuffix (a ++ b) b = a := by
  unfold Lib.trimSuffix Lib.hasSuffix
  rw [if_pos (List.isSuffixOf_iff_suffix.2 (List.suffix_append a b))]
  simp
theorem cutLab_lab {x : Lab} (h : labB x = true) : cutLab (labT x) = x := by
  obtain ⟨h1, _⟩ := lab_parts h
  have e : labT x = x.1.data.toList ++ ([61, 34] ++ (x.2.data.toList ++ [34])) := by simp [labT]
  have hc := cut_at (n := x.1.data.toList) (r := x.2.data.toList ++ [34]) (fun c hc => (name_not (h1 c hc)).2.2)
  unfold cutLab
  rw [e, hc.1, hc.2, trimSuf_self']
theorem inside_text (o : List Lab) : insideL (textL o) = Lib.join (o.map labT) [44] := by
  unfold insideL
  have e : textL o = [123] ++ (Lib.join (o.map labT) [44] ++ [125]) := by simp [textL, headT]
  have h1 : Lib.trimPrefix (textL o) [123] = Lib.join (o.map labT) [44] ++ [125] := by
    unfold Lib.trimPrefix Lib.hasPrefix
    rw [e, if_pos (List.isPrefixOf_iff_prefix.2 (List.prefix_append _ _))]
    rfl
  rw [h1, trimSuf_self']
theorem split_reads {D : List UInt8} {o : List Lab} (h : Reads D o) : splitF D = o := by
  obtain ⟨hg, rfl⟩ := h
  unfold splitF
  rw [inside_text]
  by_cases e : o = []
  · subst e
    rw [if_pos (by rfl)]
  · have hp := join_pos e
    rw [if_neg (fun h => by rw [h] at hp; simp at hp), pieces_items e (good_labs hg), List.map_map]
    conv => rhs; rw [← List.map_id o]
    apply List.map_congr_left
    intro x hx
    exact cutLab_lab (good_labs hg x hx)
theorem inside_size (D : List UInt8) : (insideL D).length ≤ D.length := Nat.le_trans (trimSuf_size _ _) (trimPre_size _ _)
theorem cut1_size' (s p : List UInt8) : (Lib.cut s p).1.length ≤ s.length := by
  unfold Lib.cut; split
  · simp only [List.length_take]; exact Nat.min_le_right _ _
  · exact Nat.le_refl _
theorem cutLab_size (p : List UInt8) : (cutLab p).1.size ≤ p.length ∧ (cutLab p).2.size ≤ p.length := by
  constructor
  · rw [Lib.size_eq]; exact cut1_size' _ _
  · rw [Lib.size_eq]; exact Nat.le_trans (trimSuf_size _ _) (cut_size _ _)
theorem split_fit {D : List UInt8} (h : D.length ≤ 400) : Fit (splitF D) ∧ (splitF D).length ≤ 401 := by
  unfold splitF
  split
  · exact ⟨⟨by simp, by simp⟩, by simp⟩
  · have h1 := pieces_le (b := 44) (insideL D)
    have h2 := inside_size D
    refine ⟨⟨by rw [List.length_map]; omega, fun x hx => ?_⟩, by rw [List.length_map]; omega⟩
    obtain ⟨p, hp, rfl⟩ := List.mem_map.1 hx
    have := h1.2 p hp
    have h3 := cutLab_size p
    omega

def Splits (D : List UInt8) (w : World) (e : Ending) (w' : World) : Prop :=
  ∃ v, e = .returned v ∧ w'.ownsRow w.heap.size 82 2 v (splitF D).length (cellsOf (splitF D)) ∧ Below w.heap.size w w'

set_option maxHeartbeats 8000000 in
set_option maxRecDepth 100000 in
theorem split68 (s : ByteArray) (hs : s.size ≤ 400) (w : World) (hM : MaxC w) : Calls Tryd.prog 68 #[.string s] w (Splits s.data.toList w) := by
  have HM := Lib.hid hM
  clear hM
  obtain ⟨i0, hi0, hz0, hz1, hz2⟩ := info_parts Tryd.info82
  go_enter Tryd.func68, Tryd.ntmps68
  go_wp2_with fail
  refine (Tryd.strings_TrimPrefix s ⟨#[123]⟩ _).mono ?_
  rintro e w0 ⟨rfl, rfl⟩
  obtain ⟨r1, hr1⟩ : ∃ a : ByteArray, a = ⟨(Lib.trimPrefix s.data.toList [123]).toArray⟩ := ⟨_, rfl⟩
  have hs1 : r1.size ≤ 400 := by rw [hr1, Lib.size_eq]; have := trimPre_size s.data.toList [123]; rw [← Lib.size_eq] at this; exact Nat.le_trans this hs
  rw [← hr1]
  have HR1 := Lib.hid (show r1.data.toList = Lib.trimPrefix s.data.toList [123] by rw [hr1])
  clear hr1
  go_wp2_with fail
  refine (Tryd.strings_TrimSuffix r1 ⟨#[125]⟩ _ (by omega)).mono ?_
  rintro e w0 ⟨rfl, rfl⟩
  obtain ⟨ins, hin⟩ : ∃ a : ByteArray, a = ⟨(Lib.trimSuffix r1.data.toList [125]).toArray⟩ := ⟨_, rfl⟩
  have HI := Lib.hid (show ins.data.toList = insideL s.data.toList by rw [hin, HR1.out]; rfl)
  have hsi : ins.size ≤ 400 := by rw [Lib.size_eq, HI.out]; have := inside_size s.data.toList; rw [← Lib.size_eq] at this; omega
  rw [← hin]
  clear hin
  by_cases hz : 0 < ins.size
  case neg =>
    have he := empty_of (s := ins) (by omega)
    have HS := Lib.hid (show splitF s.data.toList = [] by unfold splitF; rw [if_pos (by rw [← HI.out]; exact data_nil (by omega))])
    go_wp2
    go_ret
    refine ⟨_, rfl, ?_, Below.refl _ _⟩
    rw [HS.out]
    exact World.ownsRow_nil _ _ _ _
  have he := nonempty_of hz
  have HS := Lib.hid (show splitF s.data.toList = (pieces 44 ins.data.toList).map cutLab by
    unfold splitF
    rw [← HI.out, if_neg (fun h => by have := Lib.size_eq ins; rw [h] at this; simp at this; rw [this] at hz; simp at hz)])
  have hPL := pieces_le (b := 44) ins.data.toList
  rw [← Lib.size_eq] at hPL
  go_wp2_with fail
  refine (split106 44 ins (by omega) _ HM.out).mono ?_
  rintro e w1 ⟨rfl, hb, hlt1, hc⟩
  have HC := Lib.hid hc
  have HB := Lib.hid hb
  clear hb hc
  have HPS := Lib.hid hPL.2
  have hpl := hPL.1
  clear hPL
  generalize pieces 44 ins.data.toList = ps at HC HS HPS hpl ⊢
  go_wp2_with fail
  go_loopw [4, 18] (fun v i wr => ∃ k : Nat, k ≤ ps.length ∧ i = .int .i64 k ∧ Hid (wr.ownsRow w1.heap.size 82 2 v k (cellsOf ((ps.take k).map cutLab))) ∧ Hid (Below w1.heap.size w1 wr)) (fun _ i _ => ps.length - (intOf i).toNat)
  case atStart => exact ⟨0, Nat.zero_le _, rfl, by simpa [cellsOf, Hid] using World.ownsRow_nil _ _ _ _, Below.refl _ _⟩
  case round =>
    obtain ⟨k, hk, rfl, hO, hb⟩ := hrel
    by_cases hlt : k < ps.length
    · have c0 := (hb.out.cell (p := ⟨w0.heap.size, k, none⟩) hlt1).trans (HC.out k ps[k] (List.getElem?_eq_getElem hlt))
      have hps := HPS.out ps[k] (List.getElem_mem hlt)
      have HT := Lib.hid (show cellsOf ((ps.take (k + 1)).map cutLab) = cellsOf ((ps.take k).map cutLab) ++ [.string (cutLab ps[k]).1, .string (cutLab ps[k]).2] by
        rw [List.take_succ_eq_append_getElem hlt, List.map_append, cellsOf_append]; rfl)
      obtain ⟨m0, hm0⟩ := (HM.out.below' HB.out).below' hb.out
      have HM0 := Lib.hid hm0
      clear hm0
      generalize hpk : ps[k] = p at c0 hps HT
      clear hpk
      have hpz : (⟨p.toArray⟩ : ByteArray).size ≤ 400 := by rw [Lib.size_eq]; show p.length ≤ 400; omega
      go_wp2_with fail
      refine (Tryd.strings_Cut ⟨p.toArray⟩ ⟨#[61, 34]⟩ m0 _ (by omega) HM0.out).mono ?_
      rintro e w2 ⟨rfl, q, hw2⟩
      have HO2 : Hid (w2.ownsRow w1.heap.size 82 2 u4 k (cellsOf ((ps.take k).map cutLab))) := by rw [hw2]; exact hO
      have HB2 := Lib.hid (show Below w1.heap.size w1 w2 by rw [hw2]; exact below_drewN hb.out q)
      clear hw2
      obtain ⟨nm, hnm⟩ : ∃ a : ByteArray, a = ⟨(Lib.cut p [61, 34]).1.toArray⟩ := ⟨_, rfl⟩
      obtain ⟨rst, hrst⟩ : ∃ a : ByteArray, a = ⟨(Lib.cut p [61, 34]).2.1.toArray⟩ := ⟨_, rfl⟩
      have hrz : rst.size ≤ 400 := by rw [hrst, Lib.size_eq]; have := cut_size p [61, 34]; show (Lib.cut p [61, 34]).2.1.length ≤ 400; omega
      have HT2 := Lib.hid (show (cutLab p).1 = nm ∧ (cutLab p).2 = ⟨(Lib.trimSuffix rst.data.toList [34]).toArray⟩ by rw [hnm, hrst]; exact ⟨rfl, rfl⟩)
      rw [toBytes, show (ByteArray.mk #[61, 34]).data.toList = [61, 34] from rfl, ← hnm, ← hrst]
      clear hnm hrst
      generalize (Lib.cut p [61, 34]).2.2 = fnd
      go_wp2_with fail
      refine (Tryd.strings_TrimSuffix rst ⟨#[34]⟩ _ (by omega)).mono ?_
      rintro e w3 ⟨rfl, rfl⟩
      rw [show (ByteArray.mk #[34]).data.toList = [34] from rfl]
      obtain ⟨iz, hiz⟩ : ∃ a : ByteArray, a = ⟨(Lib.trimSuffix rst.data.toList [34]).toArray⟩ := ⟨_, rfl⟩
      rw [← hiz] at HT2 ⊢
      clear hiz
      go_wp2_with (at_builtin; refine wpList_append_own _ rfl (.tmp 28) (.tmp 33) 24 rfl w1.heap.size 82 i0 _ 2 32 Tryd.underlying24 hi0 hz0 hz1 hz2 rfl (by decide) _ _ _ rfl (HO2.out.alloc _) ⟨w3.heap.size, 0, none⟩ 1 1 [.string nm, .string iz] rfl rfl new_pair pair_one ?c3 ?c4 ?c5 ?_)
      case c3 => unfold maxLen; omega
      case c4 => omega
      case c5 => have h1 := HB2.out.size; simp; omega
      intro v' w4 hown' hgrow _
      have HVg := Lib.hid (fun g hg => (HO2.out.lt g hg).1)
      have HBz := Lib.hid (HB2.out.alloc HB2.out.size (.cells #[.string nm, .string iz] 82))
      have HB4 := Lib.hid (HBz.out.grown hgrow HBz.out.size HVg.out)
      have HO4 : Hid (w4.ownsRow w1.heap.size 82 2 v' (k + 1) (cellsOf ((ps.take (k + 1)).map cutLab))) := Lib.hid (by rw [HT.out, HT2.out.1, HT2.out.2, List.map_take]; exact hown')
      clear hown' hgrow
      go_wp2
      go_roundw
      case rel => exact ⟨k + 1, by omega, by go_num, HO4, HB4⟩
      case measure => simp [intOf]; omega
    · obtain rfl : k = ps.length := by omega
      rw [List.take_length] at hO
      have HO := Lib.hid (own_base hO.out HB.out.size)
      have HBw := Lib.hid (HB.out.trans (hb.out.mono HB.out.size))
      go_wp2
      go_ret
      exact ⟨_, rfl, by rw [HS.out, List.length_map]; exact HO.out, HBw.out⟩

set_option maxHeartbeats 8000000 in
set_option maxRecDepth 100000 in
theorem read20 (s : ByteArray) (hs : s.size ≤ 1048576) (w : World) (hT : Tabs w) (hM : MaxC w) : Calls Tryd.prog 20 #[.string s] w (ReadEnd s.data.toList w) := by
  have HT := Lib.hid hT
  have HM := Lib.hid hM
  clear hT hM
  by_cases h400 : 400 < s.size
  · have HN := Lib.hid (show ∀ o, ¬ Reads s.data.toList o from fun o h => by have := (read_len h).2; rw [← Lib.size_eq] at this; omega)
    go_enter Tryd.func20, Tryd.ntmps20
    go_wp2
    go_ret2
    exact readEnd_no HN.out (Below.refl _ _)
  have HF := Lib.hid (split_fit (D := s.data.toList) (by rw [← Lib.size_eq]; omega))
  go_enter Tryd.func20, Tryd.ntmps20
  go_wp2_with fail
  refine (split68 s (by omega) _ HM.out).mono ?_
  rintro e w1 ⟨v, rfl, ho, hb⟩
  obtain ⟨ao, c, rfl⟩ := own_slice ho
  have HO := Lib.hid ho
  have HB := Lib.hid hb
  have HL := Lib.hid (LRow.of_own ho).2
  clear ho hb
  have hn : (splitF s.data.toList).length ≤ 1048576 := by have := HF.out.2; omega
  have HRd := Lib.hid (fun o (h : Reads s.data.toList o) => split_reads h)
  have HY := Lib.hid (fun (h1 : goodB (splitF s.data.toList) = true) (h2 : (txtF (splitF s.data.toList)).toList = s.toList) => show Reads s.data.toList (splitF s.data.toList) from ⟨h1, by rw [txtF_yes h1, Lib.toList_data, Lib.toList_data] at h2; exact h2⟩)
  have HNg := Lib.hid (fun (h1 : goodB (splitF s.data.toList) = false) => show ∀ o, ¬ Reads s.data.toList o from fun o h => by rw [split_reads h, h.1] at h1; cases h1)
  have HNt := Lib.hid (fun (h2 : (txtF (splitF s.data.toList)).toList ≠ s.toList) => show ∀ o, ¬ Reads s.data.toList o from fun o h => h2 (by rw [split_reads h, txtF_yes h.1, Lib.toList_data, Lib.toList_data]; exact h.2))
  generalize splitF s.data.toList = l at HO HL hn HY HNg HNt
  clear HF HRd
  go_wp2_with fail
  refine (text30 ao c l hn _ (HT.out.below' HB.out) HL.out).mono ?_
  rintro e w2 ⟨rfl, hb⟩
  have HB2 := Lib.hid (HB.out.trans (hb.mono HB.out.size))
  have HO2 := Lib.hid (own_below HO.out hb)
  clear hb
  by_cases hg : goodB l = true
  case neg =>
    have hg : goodB l = false := by simpa using hg
    have HN := Lib.hid (HNg.out hg)
    go_wp2
    go_ret2
    exact readEnd_no HN.out HB2.out
  by_cases ht : (txtF l).toList = s.toList
  case neg =>
    have HN := Lib.hid (HNt.out ht)
    have hq : ((txtF l).toList != s.toList) = true := by simpa using ht
    have hq' : ((txtF l).toList == s.toList) = false := by simpa using ht
    clear ht
    go_wp2
    go_ret2
    exact readEnd_no HN.out HB2.out
  have HY2 := Lib.hid (HY.out hg ht)
  have hq : ((txtF l).toList != s.toList) = false := by simpa using ht
  have hq' : ((txtF l).toList == s.toList) = true := by simpa using ht
  clear ht
  go_wp2
  go_ret2
  exact readEnd_yes HY2.out HO2.out HB2.out
end Go.Proofs.YtpbcgfgjdimpmaaDoor
