/- Contracts of BothOf and LessOf in the model, over this seat's translation. -/
import Derived.Test.YtgibjdmjemalcaaRe
namespace Go.Proofs.Ytgibjdmjemalcaa
open Go.RowKit Go.Deep

set_option maxHeartbeats 2000000 in
set_option maxRecDepth 100000 in
theorem lessM (ao bo : Option Addr) (c d : Nat) (a b : List Int) (hn : a.length ≤ 1048576) (hm : b.length ≤ 1048576) (w : World) (ha : IRow w w.heap.size ao a) (hb : IRow w w.heap.size bo b) :
    Calls Try.prog 24 #[.slice ao a.length c, .slice bo b.length d] w (LiEnd (siftR a b false) w) := by
  have HA := Lib.hid ha; have HB := Lib.hid hb
  obtain ⟨i0, hi, hz0, hz1, hz2⟩ := info_parts Try.info3
  have HH := Lib.hid (fun x W hW => hasM bo d b x hm W hW)
  clear ha hb
  go_enter Try.func24, Try.ntmps24
  go_wp2
  go_loopw [5, 10] (fun v i wr => ∃ k : Nat, k ≤ a.length ∧ i = .int .i64 k ∧ Hid (Sifted a b false k w v wr)) (fun _ i _ => a.length - (intOf i).toNat)
  case atStart => exact ⟨0, Nat.zero_le _, rfl, Lib.hid (Sifted.start _ _ _ _)⟩
  case round =>
    obtain ⟨k, hk, rfl, hS⟩ := hrel
    by_cases hlt : k < a.length
    · have HRA := Lib.hid (HA.out.after hS.out.2); have HRB := Lib.hid (HB.out.after hS.out.2)
      obtain ⟨p, off, hao, hbl, hc⟩ := HRA.out.2 (by omega)
      subst hao
      have c1 := hc k hlt
      rw [← at0_get hlt] at c1
      have HC := Lib.hid (HH.out (at0 a k) _ HRB.out)
      clear hc
      by_cases hx : decide (at0 a k ∈ b) = false
      · have HT := Lib.hid (fun (w2 : World) (v' : Value) (o : Obj) ho hg => Sifted.take (w2 := w2) (v' := v') (o := o) hS.out hlt hx ho hg)
        have hl := sift_short a b false k
        have HO := Lib.hid hS.out.1
        have HSz := Lib.hid hS.out.2.size
        rw [hx] at HC
        clear hx
        generalize at0 a k = x at c1 HC HT
        generalize siftR (a.take k) b false = q at HT hl HO
        go_wp2_with fail
        refine HC.out.mono ?_
        rintro e w1 ⟨rfl, rfl⟩
        go_wp2_with (at_builtin; refine wpList_append_own _ rfl _ _ 24 rfl w.heap.size 3 i0 (.int .i64 0) 1 8 Try.underlying24 hi hz0 hz1 hz2 rfl (by decide) _ _ _ rfl (HO.out.alloc _) ⟨wr.heap.size, 0, none⟩ 1 1 [.int .i64 x] rfl rfl new_cell ?c2 ?c3 ?c4 ?c5 ?_)
        case c2 => intro u hu; simp at hu; subst hu; rfl
        case c3 => unfold maxLen; omega
        case c4 => omega
        case c5 => have h1 := HSz.out; simp; omega
        intro v' w4 hown' hgrow _
        have HR := Lib.hid (HT.out _ _ _ hown' hgrow)
        clear hown' hgrow
        go_wp2
        go_roundw
        case rel => exact ⟨k + 1, by omega, by go_num, HR⟩
        case measure => simp [intOf]; omega
      · have HR := Lib.hid (hS.out.skip hlt hx)
        have hxf : decide (at0 a k ∈ b) = true := by simpa using hx
        rw [hxf] at HC
        clear hx hxf
        generalize at0 a k = x at c1 HC
        go_wp2_with fail
        refine HC.out.mono ?_
        rintro e w1 ⟨rfl, rfl⟩
        go_wp2
        go_roundw
        case rel => exact ⟨k + 1, by omega, by go_num, HR⟩
        case measure => simp [intOf]; omega
    · obtain rfl : k = a.length := by omega
      have HE := Lib.hid (hS.out.done)
      clear hS
      go_wp2
      go_ret
      exact HE.out

/-- What a function of two lists answers: a list and whether it is told. -/
def LbEnd (l : List Int) (q : Bool) (w : World) (e : Ending) (w' : World) : Prop :=
  (∃ (bo : Option Addr) (c : Nat), e = .returned (.tuple #[.slice bo l.length c, .bool q]) ∧ w'.ownsRow w.heap.size 3 1 (.slice bo l.length c) l.length (l.map (Value.int .i64))) ∧ Below w.heap.size w w'
theorem lb_none {w w' : World} (h : Below w.heap.size w w') : LbEnd [] false w (.returned (.tuple #[.slice none 0 0, .bool false])) w' := ⟨⟨none, 0, rfl, World.ownsRow_nil _ _ _ _⟩, h⟩
theorem lb_some {w w' : World} {l : List Int} {v : Value} (ho : w'.ownsRow w.heap.size 3 1 v l.length (l.map (Value.int .i64))) (h : Below w.heap.size w w') : LbEnd l true w (.returned (.tuple #[v, .bool true])) w' := by
  obtain ⟨ao, c, rfl⟩ := own_slice ho
  exact ⟨⟨ao, c, rfl, ho⟩, h⟩
/-- What is answered where both lists are good, and that they are. -/
noncomputable def okR (a b : List Int) : Bool := goodR a && goodR b
noncomputable def bothL (a b : List Int) : List Int := if okR a b = true then siftR a b true else []
noncomputable def lessL (a b : List Int) : List Int := if okR a b = true then siftR a b false else []
theorem okR_a {a b : List Int} (h : goodR a = false) : okR a b = false := by unfold okR; rw [h]; rfl
theorem okR_b {a b : List Int} (h : goodR b = false) : okR a b = false := by unfold okR; rw [h]; cases goodR a <;> rfl
theorem okR_ab {a b : List Int} (h : goodR a = true) (h2 : goodR b = true) : okR a b = true := by unfold okR; rw [h, h2]; rfl
theorem bothL_no {a b : List Int} (h : okR a b = false) : bothL a b = [] := by unfold bothL; rw [if_neg (by rw [h]; decide)]
theorem bothL_yes {a b : List Int} (h : okR a b = true) : bothL a b = siftR a b true := by unfold bothL; rw [if_pos h]
theorem lessL_no {a b : List Int} (h : okR a b = false) : lessL a b = [] := by unfold lessL; rw [if_neg (by rw [h]; decide)]
theorem lessL_yes {a b : List Int} (h : okR a b = true) : lessL a b = siftR a b false := by unfold lessL; rw [if_pos h]

set_option maxHeartbeats 2000000 in
set_option maxRecDepth 100000 in
theorem bothOfM (ao bo : Option Addr) (c d : Nat) (a b : List Int) (hn : a.length ≤ 1048576) (hm : b.length ≤ 1048576) (w : World) (ha : IRow w w.heap.size ao a) (hb : IRow w w.heap.size bo b) :
    Calls Try.prog 7 #[.slice ao a.length c, .slice bo b.length d] w (LbEnd (bothL a b) (okR a b) w) := by
  have HA := Lib.hid ha; have HB := Lib.hid hb
  have HGa := Lib.hid (fun W hW => listM ao c a hn W hW)
  have HGb := Lib.hid (fun W hW => listM bo d b hm W hW)
  have HC := Lib.hid (fun W h1 h2 => bothM ao bo c d a b hn hm W h1 h2)
  clear ha hb
  cases hga : goodR a with
  | false =>
    have hok := okR_a (b := b) hga
    rw [bothL_no hok, hok]
    rw [hga] at HGa
    clear hga hok
    go_enter Try.func7, Try.ntmps7
    go_wp2_with fail
    refine (HGa.out _ HA.out).mono ?_
    rintro e w1 ⟨rfl, rfl⟩
    go_wp2
    go_ret2
    exact lb_none (Below.refl _ _)
  | true =>
    rw [hga] at HGa
    cases hgb : goodR b with
    | false =>
      have hok := okR_b (a := a) hgb
      rw [bothL_no hok, hok]
      rw [hgb] at HGb
      clear hga hgb hok
      go_enter Try.func7, Try.ntmps7
      go_wp2_with fail
      refine (HGa.out _ HA.out).mono ?_
      rintro e w1 ⟨rfl, rfl⟩
      go_wp2_with fail
      refine (HGb.out _ HB.out).mono ?_
      rintro e w1 ⟨rfl, rfl⟩
      go_wp2
      go_ret2
      exact lb_none (Below.refl _ _)
    | true =>
      have hok := okR_ab hga hgb
      rw [bothL_yes hok, hok]
      rw [hgb] at HGb
      clear hga hgb hok
      unfold LiEnd at HC
      generalize siftR a b true = q at HC ⊢
      go_enter Try.func7, Try.ntmps7
      go_wp2_with fail
      refine (HGa.out _ HA.out).mono ?_
      rintro e w1 ⟨rfl, rfl⟩
      go_wp2_with fail
      refine (HGb.out _ HB.out).mono ?_
      rintro e w1 ⟨rfl, rfl⟩
      go_wp2_with fail
      refine (HC.out _ HA.out HB.out).mono ?_
      rintro e w1 ⟨⟨qo, qc, rfl, ho⟩, hb1⟩
      have HO := Lib.hid ho; have HBl := Lib.hid hb1
      clear ho hb1
      go_wp2
      go_ret2
      exact lb_some HO.out HBl.out

set_option maxHeartbeats 2000000 in
set_option maxRecDepth 100000 in
theorem lessOfM (ao bo : Option Addr) (c d : Nat) (a b : List Int) (hn : a.length ≤ 1048576) (hm : b.length ≤ 1048576) (w : World) (ha : IRow w w.heap.size ao a) (hb : IRow w w.heap.size bo b) :
    Calls Try.prog 11 #[.slice ao a.length c, .slice bo b.length d] w (LbEnd (lessL a b) (okR a b) w) := by
  have HA := Lib.hid ha; have HB := Lib.hid hb
  have HGa := Lib.hid (fun W hW => listM ao c a hn W hW)
  have HGb := Lib.hid (fun W hW => listM bo d b hm W hW)
  have HC := Lib.hid (fun W h1 h2 => lessM ao bo c d a b hn hm W h1 h2)
  clear ha hb
  cases hga : goodR a with
  | false =>
    have hok := okR_a (b := b) hga
    rw [lessL_no hok, hok]
    rw [hga] at HGa
    clear hga hok
    go_enter Try.func11, Try.ntmps11
    go_wp2_with fail
    refine (HGa.out _ HA.out).mono ?_
    rintro e w1 ⟨rfl, rfl⟩
    go_wp2
    go_ret2
    exact lb_none (Below.refl _ _)
  | true =>
    rw [hga] at HGa
    cases hgb : goodR b with
    | false =>
      have hok := okR_b (a := a) hgb
      rw [lessL_no hok, hok]
      rw [hgb] at HGb
      clear hga hgb hok
      go_enter Try.func11, Try.ntmps11
      go_wp2_with fail
      refine (HGa.out _ HA.out).mono ?_
      rintro e w1 ⟨rfl, rfl⟩
      go_wp2_with fail
      refine (HGb.out _ HB.out).mono ?_
      rintro e w1 ⟨rfl, rfl⟩
      go_wp2
      go_ret2
      exact lb_none (Below.refl _ _)
    | true =>
      have hok := okR_ab hga hgb
      rw [lessL_yes hok, hok]
      rw [hgb] at HGb
      clear hga hgb hok
      unfold LiEnd at HC
      generalize siftR a b false = q at HC ⊢
      go_enter Try.func11, Try.ntmps11
      go_wp2_with fail
      refine (HGa.out _ HA.out).mono ?_
      rintro e w1 ⟨rfl, rfl⟩
      go_wp2_with fail
      refine (HGb.out _ HB.out).mono ?_
      rintro e w1 ⟨rfl, rfl⟩
      go_wp2_with fail
      refine (HC.out _ HA.out HB.out).mono ?_
      rintro e w1 ⟨⟨qo, qc, rfl, ho⟩, hb1⟩
      have HO := Lib.hid ho; have HBl := Lib.hid hb1
      clear ho hb1
      go_wp2
      go_ret2
      exact lb_some HO.out HBl.out
end Go.Proofs.Ytgibjdmjemalcaa
