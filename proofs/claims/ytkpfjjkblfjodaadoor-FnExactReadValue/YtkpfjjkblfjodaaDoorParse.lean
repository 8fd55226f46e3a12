/- Contracts of ParseUint of base 16 and 64 bits, over the door's translation: a text of sixteen digits 0 to f is read as its number; of any other text the answer is some number, with or without an error. -/
import Derived.Test.YtkpfjjkblfjodaaDoorRead
import Derived.Lib.ConvBytes
import Derived.Lib.AtoiErrMem
import Derived.Lib.Strings
namespace Go.Proofs.YtkpfjjkblfjodaaDoor
open Go.RowKit Go.Deep

def lowc (c : Nat) : Nat := c ||| 32

theorem low36 (c : Nat) (hc : c < 256) (w : World) : Calls Tryd.prog 36 #[.int .u8 c] w fun e w' => e = .returned (.int .u8 (lowc c)) ∧ w = w' := by
  have hb : bits BinOp.or IntKind.u8 (c : Int) 32 = ((lowc c : Nat) : Int) := by
    have := (bits_nat .u8 8 (by decide) wraps_u8 c 32 hc (by decide)).2
    exact this
  go_enter Tryd.func36, Tryd.ntmps36
  go_wp2
  go_ret
  exact ⟨rfl, rfl⟩

theorem low36' (c l : Nat) (hc : c < 256) (hl : lowc c = l) (w : World) : Calls Tryd.prog 36 #[.int .u8 c] w fun e w' => e = .returned (.int .u8 l) ∧ w = w' := by
  subst hl; exact low36 c hc w

theorem lowc_lt (c : Nat) (hc : c < 256) : lowc c < 256 := by
  have hall : ∀ c : Fin 256, lowc c.val < 256 := by decide +kernel
  exact hall ⟨c, hc⟩

theorem lowc_hex (c : Nat) (hc : c < 256) (h : 97 ≤ c ∧ c ≤ 102) : lowc c = c := by
  have hall : ∀ c : Fin 256, 97 ≤ c.val ∧ c.val ≤ 102 → lowc c.val = c.val := by decide +kernel
  exact hall ⟨c, hc⟩ h

/-- One letter more, where the text is one. -/
theorem parse_next {s : ByteArray} {k v c d : Nat} (hk : k < s.data.toList.length) (hc : (s.data.toList.getD k 0).toNat = c) (hd : goodS s → hexv c = some d) (h : goodS s → v = valL (s.data.toList.take k)) :
    goodS s → v * 16 + d = valL (s.data.toList.take (k + 1)) := by
  intro hg
  have hc' : (s.data.toList[k]).toNat = c := by rw [← hc]; unfold List.getD; rw [List.getElem?_eq_getElem hk]; rfl
  rw [take_next _ hk, valL_snoc, hc', hd hg, ← h hg]
  rfl

theorem good_letter {s : ByteArray} {k c : Nat} (hk : k < s.data.toList.length) (hc : (s.data.toList.getD k 0).toNat = c) (hg : goodS s) : ∃ d, hexv c = some d := by
  have hc' : (s.data.toList[k]).toNat = c := by rw [← hc]; unfold List.getD; rw [List.getElem?_eq_getElem hk]; rfl
  rw [← hc']
  exact valid_at hg.2 hk

theorem good_low {s : ByteArray} {k c : Nat} (hc256 : c < 256) (hk : k < s.data.toList.length) (hc : (s.data.toList.getD k 0).toNat = c) (hA : ¬ (48 ≤ c ∧ c ≤ 57)) (hg : goodS s) : 97 ≤ c ∧ c ≤ 102 ∧ lowc c = c ∧ hexv c = some (c - 87) := by
  obtain ⟨d, hd⟩ := good_letter hk hc hg
  unfold hexv at hd
  rw [if_neg hA] at hd
  split at hd
  · rename_i hB
    refine ⟨hB.1, hB.2, lowc_hex c hc256 hB, ?_⟩
    unfold hexv
    rw [if_neg hA, if_pos hB]
  · cases hd

theorem good_small {s : ByteArray} {k v : Nat} (hk : k < s.size) (h : goodS s → v = valL (s.data.toList.take k)) (hg : goodS s) : v < 1152921504606846976 := by
  have h1 := val_take_lt s.data.toList k
  have h2 := pow60 (k := k) (by have := hg.1; omega)
  rw [h hg]; omega

/-- The greatest number of 64 bits. -/
def maxv : Nat := 18446744073709551615
theorem maxv_lt : maxv < 18446744073709551616 := by unfold maxv; omega

/-- What is parsed. -/
def Parsed (s : ByteArray) (w : World) (e : Ending) (w' : World) : Prop :=
  ∃ (x : Nat) (ev : Value), x < 18446744073709551616 ∧ e = .returned (.tuple #[.int .u64 x, ev]) ∧ (ev = .nilIface ∨ ∃ k : Int, (k = 1 ∨ k = 2) ∧ ev = .iface 65 (.int .i64 k)) ∧ (goodS s → ev = .nilIface ∧ x = valL s.data.toList) ∧ Below w.heap.size w w'

set_option maxRecDepth 20000 in
set_option maxHeartbeats 4000000 in
theorem parse25 (s : ByteArray) (hs : s.size ≤ 1048576) (w : World) : Calls Tryd.prog 25 #[.string s, .int .i64 16, .int .i64 64] w (Parsed s w) := by
  by_cases h0 : s.size = 0
  · have e : s = ⟨#[]⟩ := ByteArray.ext (Array.eq_empty_of_size_eq_zero h0)
    subst e
    go_enter Tryd.func25, Tryd.ntmps25
    go_wp2
    go_ret2
    exact ⟨0, _, by omega, rfl, .inr ⟨2, .inr rfl, rfl⟩, fun h => absurd h.1 (by decide), Below.refl _ _⟩
  · have hlen : s.data.toList.length = s.size := Array.length_toList
    have HL := Lib.hid hlen
    have hconv := Lib.run_convert_string_bytes (P := Tryd.prog) w 9 44 5 s Tryd.underlying9 Tryd.underlying44 Tryd.underlying5
    have hne1 : (s.toList == []) = false := by
      rw [beq_eq_false_iff_ne]
      intro e
      apply h0
      rw [← hlen]
      rw [← Lib.toList_data s, e]; rfl
    clear hlen
    have HB := Lib.hid (Lib.bytesWorld_below w 5 s)
    have hcell := Lib.hid (fun k hk => Lib.bytesWorld_cell w 5 s k hk)
    go_enter Tryd.func25, Tryd.ntmps25
    go_wp2_with (go_at_call 36; fail)
    have hmx : IntKind.u64.wrap (IntKind.u64.wrap 18446744073709551616 - 1) = (maxv : Int) := by decide
    obtain ⟨mx, hM⟩ : ∃ mx, mx = maxv := ⟨_, rfl⟩
    rw [hmx, ← hM]
    have HM := Lib.hid hM
    have hw0 : IntKind.u64.wrap 18446744073709551616 = 0 := by decide
    obtain ⟨ct, hT⟩ : ∃ ct : Nat, (1152921504606846976 : Int) = (ct : Int) := ⟨1152921504606846976, rfl⟩
    rw [hw0, hT]
    have HT : Hid (ct = 1152921504606846976) := Lib.hid (by omega)
    clear hmx hconv hM hw0 hT
    generalize Lib.bytesWorld w 5 s = W0 at HB hcell ⊢
    generalize grownCap w s.size 0 5 = cp
    go_loop [12, 13, 101] (fun u n i => ∃ k v : Nat, k ≤ s.size ∧ u = .bool false ∧ i = .int .i64 k ∧ n = .int .u64 v ∧ v < 18446744073709551616 ∧ Hid (goodS s → v = valL (s.data.toList.take k))) (fun _ _ i => s.size - (intOf i).toNat)
    case atStart => exact ⟨0, 0, by omega, rfl, rfl, rfl, by omega, Lib.hid fun _ => rfl⟩
    case round =>
      obtain ⟨k, v, hk, rfl, rfl, rfl, hv, hV⟩ := hrel
      by_cases hlt : k < s.size
      · have hkl : k < s.data.toList.length := by rw [HL.out]; exact hlt
        have hck := hcell.out k hlt
        obtain ⟨c, hc⟩ : ∃ c, (s.data.toList.getD k 0).toNat = c := ⟨_, rfl⟩
        have hc256 : c < 256 := by rw [← hc]; exact (s.data.toList.getD k 0).toNat_lt
        rw [hc] at hck
        have HC := Lib.hid hc
        clear hc
        by_cases hA : 48 ≤ c ∧ c ≤ 57
        · obtain ⟨a1, a2⟩ := hA
          have n95 : ((c : Int) == 95) = false := by rw [beq_eq_false_iff_ne]; omega
          by_cases hsm : v < ct
          · have hle : v * 16 + 15 ≤ mx := by rw [HM.out]; have := HT.out; unfold maxv; omega
            have hv60 : v < 1152921504606846976 := by have := HT.out; omega
            have hN := Lib.hid (parse_next hkl HC.out (d := c - 48) (fun _ => by unfold hexv; rw [if_pos ⟨a1, a2⟩]) hV.out)
            go_wp2
            go_round
            case rel => exact ⟨k + 1, v * 16 + (c - 48), by omega, rfl, by go_num, by go_num, by omega, hN⟩
            case measure => simp [intOf]; omega
          · go_wp2
            go_ret2
            exact ⟨mx, _, by rw [HM.out]; exact maxv_lt, rfl, .inr ⟨1, .inl rfl, rfl⟩, fun hg => absurd (good_small hlt hV.out hg) (by have := HT.out; omega), HB.out⟩
        · obtain ⟨l, hl⟩ : ∃ l, lowc c = l := ⟨_, rfl⟩
          have hl256 : l < 256 := by rw [← hl]; exact lowc_lt c hc256
          have HLW := Lib.hid hl
          have HG : Hid (goodS s → 97 ≤ c ∧ c ≤ 102 ∧ lowc c = c ∧ hexv c = some (c - 87)) := Lib.hid (good_low hc256 hkl HC.out hA)
          clear hl
          have hAA : c < 48 ∨ 57 < c := by omega
          clear hA
          by_cases hB : 97 ≤ l ∧ l ≤ 122
          · obtain ⟨b1, b2⟩ := hB
            by_cases hd : l < 103
            · by_cases hsm : v < ct
              · have hle : v * 16 + 15 ≤ mx := by rw [HM.out]; have := HT.out; unfold maxv; omega
                have hv60 : v < 1152921504606846976 := by have := HT.out; omega
                have hN := Lib.hid (parse_next hkl HC.out (d := l - 87) (fun hg => by have h := HG.out hg; rw [HLW.out] at h; rw [h.2.2.1]; exact h.2.2.2) hV.out)
                rcases hAA with hAA | hAA <;> cases h95 : ((c : Int) == 95)
                all_goals
                  go_wp2_with (go_at_call 36; refine (low36' c l hc256 HLW.out _).mono ?_; rintro e w' ⟨rfl, rfl⟩)
                  go_round
                  case rel => exact ⟨k + 1, v * 16 + (l - 87), by omega, rfl, by go_num, by go_num, by omega, hN⟩
                  case measure => simp [intOf]; omega
              · rcases hAA with hAA | hAA <;> cases h95 : ((c : Int) == 95)
                all_goals
                  go_wp2_with (go_at_call 36; refine (low36' c l hc256 HLW.out _).mono ?_; rintro e w' ⟨rfl, rfl⟩)
                  go_ret2
                  exact ⟨mx, _, by rw [HM.out]; exact maxv_lt, rfl, .inr ⟨1, .inl rfl, rfl⟩, fun hg => absurd (good_small hlt hV.out hg) (by have := HT.out; omega), HB.out⟩
            · rcases hAA with hAA | hAA <;> cases h95 : ((c : Int) == 95)
              all_goals
                go_wp2_with (go_at_call 36; refine (low36' c l hc256 HLW.out _).mono ?_; rintro e w' ⟨rfl, rfl⟩)
                go_ret2
                exact ⟨0, _, by omega, rfl, .inr ⟨2, .inr rfl, rfl⟩, fun hg => absurd (HG.out hg) (by rw [HLW.out]; omega), HB.out⟩
          · have hBB : l < 97 ∨ 122 < l := by omega
            have HNG : Hid (¬ goodS s) := Lib.hid fun hg => absurd (HG.out hg) (by rw [HLW.out]; omega)
            clear hB
            rcases hAA with hAA | hAA <;> rcases hBB with hBB | hBB <;> cases h95 : ((c : Int) == 95)
            all_goals
              go_wp2_with (go_at_call 36; refine (low36' c l hc256 HLW.out _).mono ?_; rintro e w' ⟨rfl, rfl⟩)
              go_ret2
              exact ⟨0, _, by omega, rfl, .inr ⟨2, .inr rfl, rfl⟩, fun hg => absurd hg HNG.out, HB.out⟩
      · have e : k = s.size := by omega
        have HE := Lib.hid e
        clear e
        go_wp2
        go_ret2
        exact ⟨v, _, hv, rfl, .inl rfl, fun hg => ⟨rfl, by rw [hV.out hg, List.take_of_length_le (by rw [HL.out, HE.out]; exact Nat.le_refl _)]⟩, HB.out⟩
end Go.Proofs.YtkpfjjkblfjodaaDoor
