/- Contracts of the bytes of a list in the model, over this seat's translation: enc of the list, where they are at most 60 numbers and 400 bytes. -/
import Derived.Test.YteiefngamccapaaLiMath
import Derived.Test.YteiefngamccapaaArgs
namespace Go.Proofs.Yteiefngamccapaa
open Go.RowKit Go.Deep

def strK (l : List Int) (k : Nat) : ByteArray := ⟨(encK l k).toArray⟩
def strE (l : List Int) : ByteArray := ⟨(enc l).toArray⟩
theorem strK_size (l : List Int) (k : Nat) : (strK l k).size = (encK l k).length := by simp [strK, ByteArray.size]
theorem strK_zero (l : List Int) : strK l 0 = txtV l.length := by unfold strK txtV; rw [encK_zero]
theorem strK_all (l : List Int) : strK l l.length = strE l := by unfold strK strE; rw [encK_all]
theorem strK_succ {l : List Int} {k : Nat} (hk : k < l.length) : strK l k ++ txtV (zigN (dd (at0 l) k)) = strK l (k + 1) := by
  unfold strK txtV
  rw [encK_succ hk, ByteArray.mk_append_mk]
/-- The number ahead. -/
def lst (l : List Int) (k : Nat) : Int := if k = 0 then 0 else at0 l (k - 1)
theorem lst_succ (l : List Int) (k : Nat) : lst l (k + 1) = at0 l k := by unfold lst; rw [if_neg (by omega), Nat.add_sub_cancel]
theorem lst_in {l : List Int} (h : ∀ x ∈ l, In64 x) (k : Nat) : In64 (lst l k) := by
  unfold lst; split
  · unfold In64; omega
  · exact at0_in h _
theorem ss_in (x : Nat → Int) (k : Nat) : In64 (ss x k) := by
  unfold ss; split
  · unfold In64; omega
  · exact w64_in _
theorem w64_eq (n : Int) : w64 n = RowKit.wrap64 n := by unfold w64 RowKit.wrap64; rfl
theorem wr_in (n : Int) : In64 (RowKit.wrap64 n) := by rw [← w64_eq]; exact w64_in n
theorem dd_zero (x : Nat → Int) : dd x 0 = x 0 := by unfold dd; rw [if_pos rfl]
theorem dd_more (l : List Int) {k : Nat} (hk : 0 < k) : dd (at0 l) k = RowKit.wrap64 (RowKit.wrap64 (at0 l k - lst l k) - ss (at0 l) k) := by
  unfold dd lst; rw [if_neg (by omega), if_neg (by omega), w64_eq, w64_eq]
theorem ss_more (l : List Int) {k : Nat} (hk : 0 < k) : ss (at0 l) (k + 1) = RowKit.wrap64 (at0 l k - lst l k) := by
  unfold ss lst; rw [if_neg (by omega), if_neg (by omega), Nat.add_sub_cancel, show k + 1 - 2 = k - 1 by omega, w64_eq]
theorem at0_get {l : List Int} {k : Nat} (hk : k < l.length) : at0 l k = l[k] := by simp [at0, List.getD, hk]

set_option maxHeartbeats 2000000 in
set_option maxRecDepth 100000 in
theorem list53 (ao : Option Addr) (cap : Nat) (l : List Int) (hn : l.length ≤ 60) (w : World) (h : IRow w w.heap.size ao l) :
    Calls Try.prog 104 #[.slice ao l.length cap] w fun e w' => e = .returned (.string (strE l)) ∧ Below w.heap.size w w' := by
  have H := Lib.hid h
  have HS := Lib.hid (fun k => encK_len h.1 (by omega) k)
  clear h
  go_enter Try.func104, Try.ntmps104
  go_wp2_with fail
  refine (put39 l.length (by omega) _).mono ?_
  rintro e w1 ⟨rfl, hb1⟩
  have HB1 := Lib.hid hb1
  clear hb1
  rw [← strK_zero]
  go_wp2
  go_loopw [3, 4, 5, 15] (fun s q p i wr => ∃ k : Nat, k ≤ l.length ∧ i = .int .i64 k ∧ s = .string (strK l k) ∧ q = .int .i64 (lst l k) ∧ p = .int .i64 (ss (at0 l) k) ∧ Hid (Below w.heap.size w wr)) (fun _ _ _ i _ => l.length - (intOf i).toNat)
  case atStart => exact ⟨0, Nat.zero_le _, rfl, rfl, rfl, rfl, HB1⟩
  case round =>
    obtain ⟨k, hk, rfl, rfl, rfl, rfl, hb⟩ := hrel
    by_cases hlt : k < l.length
    · obtain ⟨b, off, hao, hbl, hc⟩ := H.out.2 (by omega)
      subst hao
      have c0 := (hb.out.cell (p := ⟨b, off + k, none⟩) hbl).trans (hc k hlt)
      rw [← at0_get hlt] at c0
      have hz : (strK l k).size ≤ 700 := by rw [strK_size]; have := HS.out k; omega
      have HX := Lib.hid (strK_succ hlt)
      have HL := Lib.hid (lst_succ l k)
      have Hx := Lib.hid (at0_in H.out.1 k)
      clear hc
      by_cases h0 : k = 0
      · subst h0
        have HD := Lib.hid (dd_zero (at0 l))
        have h00 : lst l 0 = 0 := rfl
        have h01 : ss (at0 l) 0 = 0 := rfl
        have HS1 : Hid (ss (at0 l) 1 = 0) := Lib.hid rfl
        rw [h00, h01]
        rw [Nat.add_zero] at c0
        rw [HD.out] at HX
        generalize strK l 0 = s at hz HX
        generalize at0 l 0 = x at c0 HX Hx HL
        go_wp2_with fail
        refine (zig20 x Hx.out _).mono ?_
        rintro e w2 ⟨rfl, rfl⟩
        go_wp2_with fail
        refine (put39 (zigN x) (zig_lt Hx.out) _).mono ?_
        rintro e w3 ⟨rfl, hb3⟩
        have HB3 := Lib.hid (hb.out.trans (hb3.mono hb.out.size))
        have ht : (txtV (zigN x)).size ≤ 10 := by rw [txtV_size]; exact putV_ten (zig_lt Hx.out)
        clear hb3
        generalize txtV (zigN x) = t at ht HX
        go_wp2
        go_roundw
        case rel => exact ⟨1, by omega, by go_num, by rw [HX.out], by rw [HL.out], by rw [HS1.out], HB3⟩
        case measure => simp [intOf]; omega
      · have HD := Lib.hid (dd_more l (k := k) (by omega))
        have HS1 := Lib.hid (ss_more l (k := k) (by omega))
        rw [HD.out] at HX
        have hk0 : ((k : Int) == 0) = false := by simpa using h0
        have Hi := Lib.hid (lst_in H.out.1 k)
        generalize strK l k = s at hz HX
        generalize at0 l k = x at c0 HX Hx HL HS1
        generalize lst l k = y at HX HS1 Hi
        generalize ss (at0 l) k = p at HX
        have HZ := Lib.hid (show In64 (RowKit.wrap64 (RowKit.wrap64 (x - y) - p)) from wr_in _)
        go_wp2_with fail
        refine (zig20 (RowKit.wrap64 (RowKit.wrap64 (x - y) - p)) HZ.out _).mono ?_
        rintro e w2 ⟨rfl, rfl⟩
        go_wp2_with fail
        refine (put39 (zigN (RowKit.wrap64 (RowKit.wrap64 (x - y) - p))) (zig_lt HZ.out) _).mono ?_
        rintro e w3 ⟨rfl, hb3⟩
        have HB3 := Lib.hid (hb.out.trans (hb3.mono hb.out.size))
        have ht : (txtV (zigN (RowKit.wrap64 (RowKit.wrap64 (x - y) - p)))).size ≤ 10 := by rw [txtV_size]; exact putV_ten (zig_lt HZ.out)
        clear hb3
        generalize txtV (zigN (RowKit.wrap64 (RowKit.wrap64 (x - y) - p))) = t at ht HX
        go_wp2
        go_roundw
        case rel => exact ⟨k + 1, by omega, by go_num, by rw [HX.out], by rw [HL.out], by rw [HS1.out], HB3⟩
        case measure => simp [intOf]; omega
    · obtain rfl : k = l.length := by omega
      have HE := Lib.hid (strK_all l)
      go_wp2
      go_ret
      exact ⟨ret_str HE.out, hb.out⟩

/-- What PutList answers. -/
def fitsL (l : List Int) : Bool := decide (l.length ≤ 60) && decide ((strE l).size ≤ 400)
def putF (l : List Int) : ByteArray := bif fitsL l then strE l else ⟨#[]⟩
theorem putF_yes {l : List Int} (h : fitsL l = true) : putF l = strE l := by simp [putF, h]
theorem putF_no {l : List Int} (h : fitsL l = false) : putF l = ⟨#[]⟩ := by simp [putF, h]
theorem ret_strb {a b : ByteArray} {c d : Bool} (h : a = b) (h' : c = d) : Ending.returned (.tuple #[.string a, .bool c]) = .returned (.tuple #[.string b, .bool d]) := by rw [h, h']

end Go.Proofs.Yteiefngamccapaa
