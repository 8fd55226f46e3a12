/- Cutting a text at a byte: the plain function, and the contract of the model's l1Split over this seat's translation. -/
import Derived.Test.YtpbcgfgjdimpmaaDoorListm
import Derived.Deep.AppendLies
import Derived.Laws.Strings2
namespace Go.Proofs.YtpbcgfgjdimpmaaDoor
open Go.RowKit Go.Deep

theorem str_ext {a b : ByteArray} (h : a.data.toList = b.data.toList) : a = b := data_inj h
theorem data_add (a b : ByteArray) : (a ++ b).data.toList = a.data.toList ++ b.data.toList := by simp
theorem size_len (a : ByteArray) : a.size = a.data.toList.length := Array.length_toList.symm
theorem Tryd.info9 : (Tryd.prog.info? 9).map (fun i => (i.zero, i.size, i.bytes)) = some (some (.string ⟨#[]⟩), 1, 16) := by kernel_rfl
end Go.Proofs.YtpbcgfgjdimpmaaDoor
namespace Go.Proofs.YtpbcgfgjdimpmaaDoor
open Go.RowKit Go.Deep

/-- What has been cut off up to i, where the piece under way began at f. -/
def CutTo (b : UInt8) (D : List UInt8) (f i : Nat) (done : List (List UInt8)) : Prop :=
  f ≤ i ∧ i ≤ D.length ∧ pieces b D = done ++ pieces b (D.drop f) ∧ ∀ x ∈ (D.drop f).take (i - f), x ≠ b
theorem cutTo_zero (b : UInt8) (D : List UInt8) : CutTo b D 0 0 [] := ⟨Nat.le_refl _, Nat.zero_le _, rfl, by simp⟩
theorem drop_split {D : List UInt8} {f i : Nat} (h1 : f ≤ i) (h2 : i < D.length) : D.drop f = (D.drop f).take (i - f) ++ D[i] :: D.drop (i + 1) := by
  have h := List.take_append_drop (i - f) (D.drop f)
  rw [List.drop_drop, show f + (i - f) = i by omega, List.drop_eq_getElem_cons h2] at h
  exact h.symm
theorem cutTo_other {b : UInt8} {D : List UInt8} {f i : Nat} {done : List (List UInt8)} (h : CutTo b D f i done) (hi : i < D.length) (hb : D[i] ≠ b) : CutTo b D f (i + 1) done := by
  obtain ⟨h1, h2, h3, h4⟩ := h
  refine ⟨by omega, by omega, h3, fun x hx => ?_⟩
  have e : (D.drop f).take (i + 1 - f) = (D.drop f).take (i - f) ++ [D[i]] := by
    rw [show i + 1 - f = (i - f) + 1 by omega, List.take_succ_eq_append_getElem (by simp; omega)]
    simp [show f + (i - f) = i by omega]
  rw [e] at hx
  rcases List.mem_append.1 hx with hx | hx
  · exact h4 x hx
  · rw [List.mem_singleton.1 hx]; exact hb
theorem cutTo_hit {b : UInt8} {D : List UInt8} {f i : Nat} {done : List (List UInt8)} (h : CutTo b D f i done) (hi : i < D.length) (hb : D[i] = b) : CutTo b D (i + 1) (i + 1) (done ++ [(D.drop f).take (i - f)]) := by
  obtain ⟨h1, h2, h3, h4⟩ := h
  refine ⟨Nat.le_refl _, by omega, ?_, by simp⟩
  rw [h3]
  conv => lhs; rw [drop_split h1 hi, hb, pieces_cut h4]
  simp
theorem cutTo_end {b : UInt8} {D : List UInt8} {f : Nat} {done : List (List UInt8)} (h : CutTo b D f D.length done) : pieces b D = done ++ [D.drop f] := by
  obtain ⟨h1, _, h3, h4⟩ := h
  rw [h3, pieces_free]
  rwa [List.take_of_length_le (by simp)] at h4

def strs (l : List (List UInt8)) : List Value := l.map fun p => Value.string ⟨p.toArray⟩
def Cutted (b : UInt8) (D : List UInt8) (w : World) (e : Ending) (w' : World) : Prop :=
  ∃ v, e = .returned v ∧ w'.ownsRow w.heap.size 9 1 v (pieces b D).length (strs (pieces b D)) ∧ Below w.heap.size w w'
theorem strs_snoc (l : List (List UInt8)) (p : List UInt8) : strs (l ++ [p]) = strs l ++ [.string ⟨p.toArray⟩] := by simp [strs]
theorem cut_app {w w2 w3 : World} {v v' : Value} {l : List (List UInt8)} {p : List UInt8} {o : Obj} (hb : Below w.heap.size w w2) (hown : w2.ownsRow w.heap.size 9 1 v l.length (strs l)) (hown' : w3.ownsRow w.heap.size 9 1 v' (l.length + 1) (strs l ++ [.string ⟨p.toArray⟩])) (hg : (w2.alloc o).grownBy w3 v.ownBlock) :
    w3.ownsRow w.heap.size 9 1 v' (l ++ [p]).length (strs (l ++ [p])) ∧ Below w.heap.size w w3 := by
  refine ⟨by rw [strs_snoc, List.length_append]; exact hown', ?_⟩
  have hb1 := hb.alloc hb.size o
  exact hb1.grown hg hb1.size (fun k hk => (hown.lt k hk).1)
theorem extract_pieces (s : ByteArray) (f k : Nat) : s.extract f k = ⟨((s.data.toList.drop f).take (k - f)).toArray⟩ := str_ext (by simp [ByteArray.data_extract])
theorem byte_at (s : ByteArray) {k : Nat} (h : k < s.size) : s[k] = s.data.toList[k]'(by rw [← size_len]; exact h) := rfl

set_option maxHeartbeats 2000000 in
set_option maxRecDepth 100000 in
theorem split80 (s : ByteArray) (b : UInt8) (hs : s.size ≤ 1048576) (w : World) : Calls Tryd.prog 73 #[.string s, .int .u8 (b.toNat : Int)] w (Cutted b s.data.toList w) := by
  obtain ⟨i0, hi0, hz0, hz1, hz2⟩ := info_parts Tryd.info9
  go_enter Tryd.func73, Tryd.ntmps73
  go_wp2_with fail
  go_loopw [5, 6, 7] (fun v f i wr => ∃ (fn k : Nat) (done : List (List UInt8)), done.length ≤ fn ∧ fn ≤ k ∧ k ≤ s.size ∧ f = .int .i64 fn ∧ i = .int .i64 k ∧ Hid (CutTo b s.data.toList fn k done) ∧ Hid (wr.ownsRow w.heap.size 9 1 v done.length (strs done)) ∧ Hid (Below w.heap.size w wr)) (fun _ _ i _ => s.size - (intOf i).toNat)
  case atStart => exact ⟨0, 0, [], by simp, by simp, by simp, rfl, rfl, cutTo_zero _ _, World.ownsRow_nil _ _ _ _, Below.refl _ _⟩
  case round =>
    obtain ⟨f, k, done, hdf, hfk, hk, rfl, rfl, hC, hO, hb⟩ := hrel
    by_cases hlt : k < s.size
    · have hkD : k < s.data.toList.length := by rw [← size_len]; exact hlt
      by_cases he : s[k]'hlt = b
      · have hq : (((s[k]'hlt).toNat : Int) == (b.toNat : Int)) = true := by rw [he]; simp
        have HC := Lib.hid (cutTo_hit hC.out hkD he)
        have HX := Lib.hid (extract_pieces s f k)
        clear he
        go_wp2_with (at_builtin; refine wpList_append_own _ rfl (.tmp 19) (.tmp 24) 37 rfl w.heap.size 9 i0 _ 1 16 Tryd.underlying37 hi0 hz0 hz1 hz2 rfl (by decide) _ _ _ rfl (hO.out.alloc _) ⟨wr.heap.size, 0, none⟩ 1 1 [.string (s.extract f k)] rfl rfl ?c1 ?c2 ?c3 ?c4 ?c5 ?_)
        case c1 =>
          intro j u hj
          match j, hj with
          | 0, hj => simp at hj; subst hj; simp [Addr.add]
        case c2 => intro u hu; simp at hu; subst hu; rfl
        case c3 => unfold maxLen; omega
        case c4 => omega
        case c5 => have := hb.out.size; simp; omega
        intro v' w3 hown' hgrow _
        rw [HX.out] at hown'
        have HR := Lib.hid (cut_app hb.out hO.out hown' hgrow)
        clear hown' hgrow
        go_wp2
        go_roundw
        case rel => exact ⟨k + 1, k + 1, _, by simp; omega, by omega, by omega, by go_num, by go_num, HC, HR.out.1, HR.out.2⟩
        case measure => simp [intOf]; omega
      · have hq : (((s[k]'hlt).toNat : Int) == (b.toNat : Int)) = false := by
          rw [beq_eq_false_iff_ne]; intro h; exact he (UInt8.toNat_inj.1 (by omega))
        have HC := Lib.hid (cutTo_other hC.out hkD he)
        clear he
        go_wp2
        go_roundw
        case rel => exact ⟨f, k + 1, done, hdf, by omega, by omega, rfl, by go_num, HC, hO, hb⟩
        case measure => simp [intOf]; omega
    · obtain rfl : k = s.size := by omega
      have HX := Lib.hid (extract_pieces s f s.size)
      have HE := Lib.hid (cutTo_end (by rw [← size_len]; exact hC.out))
      go_wp2_with (at_builtin; go_loud (refine wpList_append_own _ rfl (.tmp 28) (.tmp 32) 37 rfl w.heap.size 9 i0 _ 1 16 Tryd.underlying37 hi0 hz0 hz1 hz2 rfl (by decide) _ _ _ rfl (hO.out.alloc _) ⟨wr.heap.size, 0, none⟩ 1 1 [.string (s.extract f s.size)] rfl rfl ?c1 ?c2 ?c3 ?c4 ?c5 ?_))
      case c1 =>
        intro j u hj
        match j, hj with
        | 0, hj => simp at hj; subst hj; simp [Addr.add]
      case c2 => intro u hu; simp at hu; subst hu; rfl
      case c3 => unfold maxLen; omega
      case c4 => omega
      case c5 => have := hb.out.size; simp; omega
      intro v' w3 hown' hgrow _
      rw [HX.out, List.take_of_length_le (by rw [List.length_drop, ← size_len]; exact Nat.le_refl _)] at hown'
      have HR := Lib.hid (cut_app hb.out hO.out hown' hgrow)
      clear hown' hgrow
      go_wp2
      go_ret
      exact ⟨v', rfl, by rw [HE.out]; exact HR.out.1, HR.out.2⟩
end Go.Proofs.YtpbcgfgjdimpmaaDoor
