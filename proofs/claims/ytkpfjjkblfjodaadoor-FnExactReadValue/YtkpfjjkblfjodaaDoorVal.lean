/- Contracts of ValueText in the program and in the model, over the door's translation: both answer the same sixteen letters. -/
import Derived.Test.YtkpfjjkblfjodaaDoorText
import Derived.Laws.Strings2
namespace Go.Proofs.YtkpfjjkblfjodaaDoor
open Go.RowKit Go.Deep

def hexS (u : Nat) : ByteArray := ⟨(hexL u 16).toArray⟩

theorem hexL_pad (u n : Nat) (hn : n ≤ 16) (hu : u < 16 ^ n) : List.replicate (16 - n) 48 ++ hexL u n = hexL u 16 := by
  apply List.ext_getElem
  · simp [hexL]; omega
  · intro p h1 h2
    rw [hexL_length] at h2
    simp only [hexL, List.getElem_map, List.getElem_range]
    by_cases hp : p < 16 - n
    · rw [List.getElem_append_left (by simpa using hp)]
      have e : u / 16 ^ (16 - 1 - p) = 0 := Nat.div_eq_of_lt (Nat.lt_of_lt_of_le hu (Nat.pow_le_pow_right (by decide) (by omega)))
      rw [e]
      simp
      decide
    · rw [List.getElem_append_right (by simp; omega)]
      simp only [List.getElem_map, List.getElem_range, List.length_replicate]
      rw [show n - 1 - (p - (16 - n)) = 16 - 1 - p from by omega]

theorem text_pad (u n : Nat) (hn : n ≤ 16) (hu : u < 16 ^ n) : zeros (16 - n) ++ (⟨(hexL u n).toArray⟩ : ByteArray) = hexS u := by
  apply ByteArray.ext
  rw [ByteArray.data_append]
  show (zeros (16 - n)).data ++ (hexL u n).toArray = (hexL u 16).toArray
  rw [← hexL_pad u n hn hu]
  simp [zeros]

theorem vt6 (u : Nat) (hu : u < 18446744073709551616) (w : World) (h : w.cell? ⟨6, 15, none⟩ = some (.int .u8 4)) (h6 : 6 < w.heap.size) :
    Calls Tryd.prog 6 #[.float .f64 u] w fun e w' => e = .returned (.string (hexS u)) ∧ Below w.heap.size w w' := by
  go_enter Tryd.func6, Tryd.ntmps6
  go_wp2_with (go_at_call 13; refine (bits13 _ _).mono ?_; rintro e w' ⟨rfl, rfl⟩)
  refine (fmt12 u hu w h h6).mono ?_
  rintro e w1 ⟨n, h1, h2, h3, rfl, hb⟩
  have HB := Lib.hid hb; have H3 := Lib.hid h3; clear hb h3
  have hsz : (⟨(hexL u n).toArray⟩ : ByteArray).size = n := by simp [ByteArray.size, hexL_length]
  have e1 : (16 : Int) - (n : Int) = ((16 - n : Nat) : Int) := by omega
  go_wp2_with fail
  refine (rep14 (16 - n) (by omega) _).mono ?_
  rintro e w2 ⟨rfl, rfl⟩
  have hz : (zeros (16 - n)).size = 16 - n := by simp [ByteArray.size, zeros]
  go_wp2
  go_ret
  exact ⟨ret_str (text_pad u n h2 H3.out), HB.out⟩

def digs16 : ByteArray := ⟨#[48, 49, 50, 51, 52, 53, 54, 55, 56, 57, 97, 98, 99, 100, 101, 102]⟩

theorem digs16_cut (d : Nat) (h : d < 16) : digs16.extract d (d + 1) = ⟨#[UInt8.ofNat (hexd d)]⟩ := by
  have hall : ∀ d : Fin 16, digs16.extract d.val (d.val + 1) = ⟨#[UInt8.ofNat (hexd d.val)]⟩ := by decide +kernel
  exact hall ⟨d, h⟩

theorem hexL_take (u j : Nat) (hj : j < 16) : (hexL u 16).take (j + 1) = (hexL u 16).take j ++ [UInt8.ofNat (hexd (u / 16 ^ (15 - j) % 16))] := by
  rw [List.take_succ_eq_append_getElem (by rw [hexL_length]; exact hj)]
  simp only [hexL, List.getElem_map, List.getElem_range]

theorem text_next {u j d : Nat} {t : ByteArray} (hj : j < 16) (hd : u / 16 ^ (15 - j) % 16 = d) (h16 : d < 16) (ht : t = ⟨((hexL u 16).take j).toArray⟩) : t ++ digs16.extract d (d + 1) = ⟨((hexL u 16).take (j + 1)).toArray⟩ := by
  rw [digs16_cut d h16, hexL_take u j hj, hd, ht]
  apply ByteArray.ext
  rw [ByteArray.data_append]
  simp

theorem slice16 (d : Nat) (h : d < 16) (w : World) : (Instr.slice 9 (.string digs16) (some (.int .u64 (d : Int))) (some (.int .u64 ((d : Int) + 1))) none).run Tryd.prog w = .ok (.string (digs16.extract d (d + 1))) w := by
  have hall : digs16.size = 16 := by decide
  have h1 := run_slice_string (P := Tryd.prog) w 9 digs16 .u64 .u64 (d : Int) ((d : Int) + 1) Tryd.underlying9 (by omega) (by omega) (by omega)
  exact h1

theorem shift15 (u j : Nat) (hu : u < 18446744073709551616) (hj : j < 16) : bits BinOp.and IntKind.u64 ((u : Int) / 2 ^ (60 - 4 * j)) 15 = ((u / 16 ^ (15 - j) % 16 : Nat) : Int) := by
  have e : (16 : Nat) ^ (15 - j) = 2 ^ (60 - 4 * j) := by
    rw [show (16 : Nat) = 2 ^ 4 from rfl, ← Nat.pow_mul, show 4 * (15 - j) = 60 - 4 * j from by omega]
  have hl : u / 16 ^ (15 - j) < 18446744073709551616 := Nat.lt_of_le_of_lt (Nat.div_le_self _ _) hu
  have := and15 (u / 16 ^ (15 - j)) hl
  rw [← this, e, Int.natCast_ediv, Int.natCast_pow]
  rfl

set_option maxHeartbeats 1000000 in
theorem hex10 (u : Nat) (hu : u < 18446744073709551616) (w : World) : Calls Tryd.prog 10 #[.int .u64 u] w fun e w' => e = .returned (.string (hexS u)) ∧ w = w' := by
  go_enter Tryd.func10, Tryd.ntmps10
  go_wp2
  go_loop [3, 4] (fun s k => ∃ (j : Nat) (t : ByteArray), j ≤ 16 ∧ k = .int .i64 (60 - 4 * (j : Int)) ∧ s = .string t ∧ t.size = j ∧ Hid (t = ⟨((hexL u 16).take j).toArray⟩)) (fun _ k => (intOf k + 4).toNat)
  case atStart => exact ⟨0, ⟨#[]⟩, by omega, rfl, rfl, rfl, Lib.hid rfl⟩
  case round =>
    obtain ⟨j, t, hj, rfl, rfl, hts, hT⟩ := hrel
    by_cases hlt : j < 16
    · have hand := shift15 u j hu hlt
      have hd : u / 16 ^ (15 - j) % 16 < 16 := Nat.mod_lt _ (by decide)
      have hnx := Lib.hid (fun d (hdd : u / 16 ^ (15 - j) % 16 = d) (h16 : d < 16) => text_next (t := t) hlt hdd h16 hT.out)
      generalize hdd : u / 16 ^ (15 - j) % 16 = d at hand hd
      have HN := Lib.hid (hnx.out d hdd hd)
      have hcs : (digs16.extract d (d + 1)).size = 1 := by rw [digs16_cut d hd]; rfl
      clear hnx hdd
      have hsl := slice16 d hd
      unfold digs16 at hcs hsl
      go_wp2
      go_round
      case rel => exact ⟨j + 1, _, by omega, by go_num, rfl, by simp [hts, hcs], HN⟩
      case measure => simp [intOf]; omega
    · have : j = 16 := by omega
      subst this
      go_wp2
      go_ret
      refine ⟨ret_str ?_, rfl⟩
      rw [hT.out, List.take_of_length_le (by rw [hexL_length]; omega)]
      rfl
end Go.Proofs.YtkpfjjkblfjodaaDoor
