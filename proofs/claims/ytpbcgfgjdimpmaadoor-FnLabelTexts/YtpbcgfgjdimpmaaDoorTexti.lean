/- Contracts of the text and of the hash of labels, in the program and in the model, over this seat's translation. -/
import Derived.Test.YtpbcgfgjdimpmaaDoorText
import Derived.Test.YtpbcgfgjdimpmaaDoorWithout
import Derived.Test.YtpbcgfgjdimpmaaDoorCmp
namespace Go.Proofs.YtpbcgfgjdimpmaaDoor
open Go.RowKit Go.Deep

theorem own_nil {w : World} {base : Nat} {e : TypeId} {size n : Nat} {v : Value} {xs : List Value} (h : w.ownsRow base e size v n xs) : ∃ ao c, v = .slice ao n c := own_slice9 h

theorem wrap_text (l : List Lab) : (⟨#[123]⟩ : ByteArray) ++ ⟨(Lib.join (l.map labT) [44]).toArray⟩ ++ ⟨#[125]⟩ = textS l := str_ext (by rw [data_add, data_add]; rfl)

set_option maxHeartbeats 2000000 in
set_option maxRecDepth 100000 in
theorem text30 (ao : Option Addr) (c : Nat) (l : List Lab) (hn : l.length ≤ 1048576) (w : World) (hT : Tabs w) (h : LRow w w.heap.size ao l) :
    Calls Tryd.prog 16 #[.slice ao l.length c] w fun e w' => e = .returned (.tuple #[.string (txtF l), .bool (goodB l)]) ∧ Below w.heap.size w w' := by
  have H := Lib.hid h
  clear h
  obtain ⟨i0, hi0, hz0, hz1, hz2⟩ := info_parts Tryd.info9
  go_enter Tryd.func16, Tryd.ntmps16
  go_wp2_with fail
  refine (good19 ao c l hn _ hT H.out).mono ?_
  rintro e w1 ⟨rfl, hb⟩
  have HB := Lib.hid hb
  clear hb
  by_cases hg : goodB l = true
  case neg =>
    have hg : goodB l = false := by simpa using hg
    have HI := Lib.hid (txtF_no hg)
    have HG := Lib.hid hg
    go_wp2
    go_ret2
    exact ⟨ret_strb HI.out.symm HG.out.symm, HB.out⟩
  have HI := Lib.hid (txtF_yes hg)
  have HG := Lib.hid hg
  have h6 := good_len hg
  go_wp2
  clear hg
  go_loopw [4, 12] (fun v i wr => ∃ k : Nat, k ≤ l.length ∧ i = .int .i64 k ∧ Hid (Parts w.heap.size l k v wr) ∧ Hid (Below w.heap.size w wr)) (fun _ i _ => l.length - (intOf i).toNat)
  case atStart => exact ⟨0, Nat.zero_le _, rfl, World.ownsRow_nil _ _ _ _, HB⟩
  case round =>
    obtain ⟨k, hk, rfl, hO, hb⟩ := hrel
    by_cases hlt : k < l.length
    · obtain ⟨b, off, hao, hbl, hc⟩ := H.out (by omega)
      subst hao
      have c0 := (hb.out.cell (p := ⟨b, off + k * 2, none⟩) hbl).trans (hc k hlt).1
      have c1 := (hb.out.cell (p := ⟨b, off + k * 2 + 1, none⟩) hbl).trans (hc k hlt).2
      have HB1 := Lib.hid (hb.out.alloc (hb.out.size) (.cells #[.string l[k].1, .string l[k].2] 82))
      have HO1 := Lib.hid (hO.out.alloc (.cells #[.string l[k].1, .string l[k].2] 82))
      have HA := Lib.hid (fun (w2 w3 : World) (v v' : Value) (o : Obj) hb ho ho' hgr => Parts.append (w := w) (w2 := w2) (w3 := w3) (v := v) (v' := v') (o := o) hlt hb ho ho' hgr)
      have hz := good_at HG.out hlt
      clear hc
      generalize l[k] = x at c0 c1 HB1 HO1 HA hz
      obtain ⟨x1, x2⟩ := x
      obtain ⟨z1, z2⟩ := hz
      dsimp only at z1 z2
      go_wp2_with (at_builtin; refine wpList_append_own _ rfl (.tmp 16) (.tmp 24) 37 rfl w.heap.size 9 i0 _ 1 16 Tryd.underlying37 hi0 hz0 hz1 hz2 rfl (by decide) _ _ _ rfl (HO1.out.alloc _) ⟨wr.heap.size + 1, 0, none⟩ 1 1 [.string (x1 ++ ⟨#[61, 34]⟩ ++ x2 ++ ⟨#[34]⟩)] rfl rfl ?c1 ?c2 ?c3 ?c4 ?c5 ?_)
      case c2 => rfl
      case c3 => unfold maxLen; omega
      case c4 => omega
      case c5 => have := hb.out.size; simp; omega
      intro v' w3 hown' hgrow _
      have HR := Lib.hid (HA.out _ _ _ _ _ HB1.out HO1.out (by rw [List.map_take]; exact hown') hgrow)
      clear hown' hgrow
      go_wp2
      go_roundw
      case rel => exact ⟨k + 1, by omega, by go_num, HR.out.1, HR.out.2⟩
      case measure => simp [intOf]; omega
    · obtain rfl : k = l.length := by omega
      have hjl := join_len HG.out
      have HWt := Lib.hid (wrap_text l)
      go_wp2_with fail
      refine (join74 l HG.out _ _ (.inr ⟨_, hO.out⟩)).mono ?_
      rintro e w2 ⟨rfl, hb2⟩
      have HB2 := Lib.hid (hb.out.trans (hb2.mono hb.out.size))
      clear hb2
      generalize Lib.join (l.map labT) [44] = J at hjl HWt
      go_wp2
      go_ret2
      exact ⟨ret_strb (by rw [HI.out, ← HWt.out]) HG.out.symm, HB2.out⟩
end Go.Proofs.YtpbcgfgjdimpmaaDoor
