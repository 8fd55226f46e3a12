/- Contract of EitherOf in the model, over this seat's translation. -/
import Derived.Test.YtgibjdmjemalcaaRl7
namespace Go.Proofs.Ytgibjdmjemalcaa
open Go.RowKit Go.Deep Go.ChangeShapes Go.WideShapes Go.ChangeAt

theorem own_form {w : World} {base : Nat} {e : TypeId} {s n c : Nat} {ao : Option Addr} {xs : List Value} (h : w.ownsRow base e s (.slice ao n c) n xs) : n ≤ c ∧ (ao = none → c = 0) ∧ (∀ ad, ao = some ad → ∃ b off, ad = ⟨b, off, none⟩) := by
  obtain ⟨_, ⟨he, hn⟩ | ⟨g, cap, cur, he, _, _, hle, _⟩⟩ := h
  · injection he with h1 h2 h3
    subst h1; subst h3
    exact ⟨by omega, (fun _ => rfl), (fun ad e => by cases e)⟩
  · injection he with h1 h2 h3
    subst h1; subst h3
    exact ⟨hle, (fun e => by cases e), (fun ad e => by injection e with e; exact ⟨g, 0, e.symm⟩)⟩
/-- What has been put together of the first k. -/
def Eith (a b : List Int) (k : Nat) (w : World) (v : Value) (wr : World) : Prop :=
  wr.ownsRow w.heap.size 3 1 v (eithR a (b.take k)).length ((eithR a (b.take k)).map (Value.int .i64)) ∧ Below w.heap.size w wr
theorem eith_snoc {a b : List Int} {k : Nat} (hk : k < b.length) : eithR a (b.take (k + 1)) = putR (eithR a (b.take k)) (at0 b k) := by
  unfold eithR; rw [take_snoc hk, List.foldl_append]; rfl
theorem putR_same {l : List Int} {n : Int} (h : n ∈ l) : putR l n = l := by unfold putR; rw [if_pos h]
theorem Eith.same {a b : List Int} {k : Nat} {w wr : World} {v : Value} (h : Eith a b k w v wr) (hk : k < b.length) (hm : at0 b k ∈ eithR a (b.take k)) : Eith a b (k + 1) w v wr := by
  unfold Eith; rw [eith_snoc hk, putR_same hm]; exact h
theorem Eith.more {a b : List Int} {k : Nat} {w wr w2 : World} {v : Value} {e : Ending} (h : Eith a b k w v wr) (hk : k < b.length) (he : LiEnd (putR (eithR a (b.take k)) (at0 b k)) wr e w2) :
    ∃ v', e = .returned v' ∧ Eith a b (k + 1) w v' w2 := by
  obtain ⟨⟨bo, c, rfl, ho⟩, hb⟩ := he
  refine ⟨_, rfl, ?_⟩
  unfold Eith; rw [eith_snoc hk]
  exact ⟨own_lower ho h.2.size, h.2.trans (hb.mono h.2.size)⟩
/-- Whether EitherOf tells a list, and the list. -/
noncomputable def okE (a b : List Int) : Bool := okR a b && decide ((eithR a b).length ≤ 20)
noncomputable def eithL (a b : List Int) : List Int := if okE a b = true then eithR a b else []
theorem okE_no {a b : List Int} (h : okR a b = false) : okE a b = false := by unfold okE; rw [h]; rfl
theorem okE_big {a b : List Int} (h : ¬ (eithR a b).length ≤ 20) : okE a b = false := by unfold okE; rw [decide_eq_false h, Bool.and_false]
theorem okE_yes {a b : List Int} (h : okR a b = true) (h2 : (eithR a b).length ≤ 20) : okE a b = true := by unfold okE; rw [h, decide_eq_true h2]; rfl
theorem eithL_no {a b : List Int} (h : okE a b = false) : eithL a b = [] := by unfold eithL; rw [if_neg (by rw [h]; decide)]
theorem eithL_yes {a b : List Int} (h : okE a b = true) : eithL a b = eithR a b := by unfold eithL; rw [if_pos h]
theorem eithL_len {a b : List Int} (_hn : a.length ≤ 1048576) (_hm : b.length ≤ 1048576) : (eithL a b).length ≤ 1048576 := by
  unfold eithL; split
  · rename_i h
    unfold okE at h
    simp only [Bool.and_eq_true, decide_eq_true_eq] at h
    omega
  · simp
theorem eithL_in {a b : List Int} (ha : ∀ x ∈ a, In64 x) (hb : ∀ x ∈ b, In64 x) : ∀ x ∈ eithL a b, In64 x := by
  unfold eithL; split
  · exact eithR_in ha hb
  · intro x hx; simp at hx

set_option maxHeartbeats 4000000 in
set_option maxRecDepth 100000 in
theorem eitherM (ao bo : Option Addr) (c d : Nat) (a b : List Int) (hn : a.length ≤ 1048576) (hm : b.length ≤ 1048576) (w : World) (ha : IRow w w.heap.size ao a) (hb : IRow w w.heap.size bo b) :
    Calls Try.prog 9 #[.slice ao a.length c, .slice bo b.length d] w (LbEnd (eithL a b) (okE a b) w) := by
  have HA := Lib.hid ha; have HB := Lib.hid hb
  have HGa := Lib.hid (fun W hW => listM ao c a hn W hW)
  have HGb := Lib.hid (fun W hW => listM bo d b hm W hW)
  have HC := Lib.hid (fun W h1 => ownM ao c a hn W h1)
  clear ha hb
  cases hga : goodR a with
  | false =>
    have hok := okE_no (okR_a (b := b) hga)
    rw [eithL_no hok, hok]
    rw [hga] at HGa
    clear hga hok
    go_enter Try.func9, Try.ntmps9
    go_wp2_with fail
    refine (HGa.out _ HA.out).mono ?_
    rintro e w1 ⟨rfl, rfl⟩
    go_wp2
    go_ret2
    exact lb_none (Below.refl _ _)
  | true =>
    rw [hga] at HGa
    cases hgb : goodR b with
    | false =>
      have hok := okE_no (okR_b (a := a) hgb)
      rw [eithL_no hok, hok]
      rw [hgb] at HGb
      clear hga hgb hok
      go_enter Try.func9, Try.ntmps9
      go_wp2_with fail
      refine (HGa.out _ HA.out).mono ?_
      rintro e w1 ⟨rfl, rfl⟩
      go_wp2_with fail
      refine (HGb.out _ HB.out).mono ?_
      rintro e w1 ⟨rfl, rfl⟩
      go_wp2
      go_ret2
      exact lb_none (Below.refl _ _)
    | true =>
      have HGA := Lib.hid (goodR_is hga); have HGB := Lib.hid (goodR_is hgb)
      have HOK := Lib.hid (okR_ab hga hgb)
      have ha20 := HGA.out.1; have hb20 := HGB.out.1
      rw [hgb] at HGb
      clear hga hgb
      go_enter Try.func9, Try.ntmps9
      go_wp2_with fail
      refine (HGa.out _ HA.out).mono ?_
      rintro e w1 ⟨rfl, rfl⟩
      go_wp2_with fail
      refine (HGb.out _ HB.out).mono ?_
      rintro e w1 ⟨rfl, rfl⟩
      go_wp2_with fail
      refine (HC.out _ HA.out).mono ?_
      rintro e w1 ⟨⟨qo, qc, rfl, ho⟩, hb1⟩
      have HE0 : Hid (Eith a b 0 w (.slice qo a.length qc) w1) := Lib.hid ⟨ho, hb1⟩
      clear ho hb1
      go_wp2
      go_loopw [6, 21] (fun v i wr => ∃ k : Nat, k ≤ b.length ∧ i = .int .i64 k ∧ Hid (Eith a b k w v wr)) (fun _ i _ => b.length - (intOf i).toNat)
      case atStart => exact ⟨0, Nat.zero_le _, rfl, HE0⟩
      case round =>
        obtain ⟨k, hk, rfl, hE⟩ := hrel
        obtain ⟨po, pc, hv⟩ := own_slice hE.out.1
        subst hv
        by_cases hlt : k < b.length
        · obtain ⟨p, off, hbo, hbl, hc⟩ := HB.out.2 (by omega)
          subst hbo
          have c1 := (hE.out.2.cell (p := ⟨p, off + k, none⟩) hbl).trans (hc k hlt)
          rw [← at0_get hlt] at c1
          obtain ⟨f1, f2, f3⟩ := own_form hE.out.1
          have hl := eithR_len (b.take k) a
          rw [List.length_take] at hl
          have HSm := Lib.hid (fun hm => hE.out.same hlt hm)
          have HMr := Lib.hid (fun (w2 : World) (e : Ending) he => hE.out.more (w2 := w2) (e := e) hlt he)
          have HP := Lib.hid (putM po pc (eithR a (b.take k)) (at0 b k) (by omega) (upR_eith HGA.out.2.2) f1 f2 f3 _ (irow_own (eithR_in HA.out.1 (fun x hx => HB.out.1 x (List.mem_of_mem_take hx))) hE.out.1))
          unfold PutEnd at HP
          clear hc f1 f2 f3 hl
          generalize eithR a (b.take k) = q at HSm HMr HP
          generalize at0 b k = x at c1 HSm HMr HP
          go_wp2_with fail
          refine HP.out.mono ?_
          rintro e w2 (⟨hm, rfl, rfl⟩ | ⟨_, he⟩)
          · have HR := Lib.hid (HSm.out hm)
            clear hm
            go_wp2
            go_roundw
            case rel => exact ⟨k + 1, by omega, by go_num, HR⟩
            case measure => simp [intOf]; omega
          · obtain ⟨v', rfl, hE'⟩ := HMr.out _ _ he
            have HR := Lib.hid hE'
            clear he hE'
            go_wp2
            go_roundw
            case rel => exact ⟨k + 1, by omega, by go_num, HR⟩
            case measure => simp [intOf]; omega
        · obtain rfl : k = b.length := by omega
          have hO := hE.out.1
          have hBl := hE.out.2
          by_cases h20 : (eithR a (b.take b.length)).length ≤ 20
          · have HE : Hid (LbEnd (eithL a b) (okE a b) w (.returned (.tuple #[.slice po (eithR a (b.take b.length)).length pc, .bool true])) _) := Lib.hid (by
              have hok := okE_yes HOK.out (by rw [List.take_length] at h20; exact h20)
              rw [eithL_yes hok, hok]
              rw [List.take_length] at hO ⊢
              exact lb_some hO hBl)
            clear hO hBl hE
            generalize eithR a (b.take b.length) = q at HE h20 ⊢
            go_wp2
            go_ret2
            exact HE.out
          · have HE : Hid (LbEnd (eithL a b) (okE a b) w (.returned (.tuple #[.slice none 0 0, .bool false])) _) := Lib.hid (by
              have hok := okE_big (a := a) (b := b) (by rw [List.take_length] at h20; exact h20)
              rw [eithL_no hok, hok]
              exact lb_none hBl)
            clear hO hBl hE
            generalize eithR a (b.take b.length) = q at h20 ⊢
            go_wp2
            go_ret2
            exact HE.out
end Go.Proofs.Ytgibjdmjemalcaa
