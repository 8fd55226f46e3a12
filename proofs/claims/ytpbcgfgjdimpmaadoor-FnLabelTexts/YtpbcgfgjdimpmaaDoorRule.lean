/- Contracts of the rules behind an interface and of their signs, over this seat's translation. -/
import Derived.Test.YtpbcgfgjdimpmaaDoorMat
namespace Go.Proofs.YtpbcgfgjdimpmaaDoor
open Go.RowKit Go.Deep

/-- The type of the rule of a Kind. -/
def ruleT (k : Int) : TypeId := if k = 1 then 133 else if k = 2 then 134 else if k = 3 then 136 else 137
/-- The sign of a Kind. -/
def signB (k : Int) : ByteArray := if k = 1 then ⟨#[61]⟩ else if k = 2 then ⟨#[33, 61]⟩ else if k = 3 then ⟨#[61, 126]⟩ else ⟨#[33, 126]⟩
theorem ret_iface {a b : TypeId} {v : Value} (h : a = b) : Ending.returned (.iface a v) = .returned (.iface b v) := by rw [h]

theorem rule86 (k : Int) (s : ByteArray) (w : World) : Calls Tryd.prog 86 #[.int .i64 k, .string s] w fun e w' => e = .returned (.iface (ruleT k) (.agg #[.string s])) ∧ w' = w := by
  by_cases h1 : k = 1
  · have HT := Lib.hid (show ruleT k = 133 by simp [ruleT, h1])
    subst h1
    go_enter Tryd.func86, Tryd.ntmps86
    go_wp2
    go_ret
    exact ⟨ret_iface HT.out.symm, rfl⟩
  by_cases h2 : k = 2
  · have HT := Lib.hid (show ruleT k = 134 by simp [ruleT, h2])
    subst h2
    clear h1
    go_enter Tryd.func86, Tryd.ntmps86
    go_wp2
    go_ret
    exact ⟨ret_iface HT.out.symm, rfl⟩
  by_cases h3 : k = 3
  · have HT := Lib.hid (show ruleT k = 136 by simp [ruleT, h3])
    subst h3
    clear h1 h2
    go_enter Tryd.func86, Tryd.ntmps86
    go_wp2
    go_ret
    exact ⟨ret_iface HT.out.symm, rfl⟩
  have HT := Lib.hid (show ruleT k = 137 by simp [ruleT, h1, h2, h3])
  have e1 : (k == 1) = false := by simp [h1]
  have e2 : (k == 2) = false := by simp [h2]
  have e3 : (k == 3) = false := by simp [h3]
  clear h1 h2 h3
  go_enter Tryd.func86, Tryd.ntmps86
  go_wp2
  go_ret
  exact ⟨ret_iface HT.out.symm, rfl⟩

theorem as133_133 (v : Value) (w : World) : (Instr.typeAssert (.iface 133 v) 106 133 true).run Tryd.prog w = .ok (.tuple #[v, .bool true]) w := by kernel_rfl
theorem as134_133 (v : Value) (w : World) : (Instr.typeAssert (.iface 134 v) 106 133 true).run Tryd.prog w = .ok (.tuple #[.agg #[.string ⟨#[]⟩], .bool false]) w := by kernel_rfl
theorem as136_133 (v : Value) (w : World) : (Instr.typeAssert (.iface 136 v) 106 133 true).run Tryd.prog w = .ok (.tuple #[.agg #[.string ⟨#[]⟩], .bool false]) w := by kernel_rfl
theorem as137_133 (v : Value) (w : World) : (Instr.typeAssert (.iface 137 v) 106 133 true).run Tryd.prog w = .ok (.tuple #[.agg #[.string ⟨#[]⟩], .bool false]) w := by kernel_rfl
theorem as133_134 (v : Value) (w : World) : (Instr.typeAssert (.iface 133 v) 106 134 true).run Tryd.prog w = .ok (.tuple #[.agg #[.string ⟨#[]⟩], .bool false]) w := by kernel_rfl
theorem as134_134 (v : Value) (w : World) : (Instr.typeAssert (.iface 134 v) 106 134 true).run Tryd.prog w = .ok (.tuple #[v, .bool true]) w := by kernel_rfl
theorem as136_134 (v : Value) (w : World) : (Instr.typeAssert (.iface 136 v) 106 134 true).run Tryd.prog w = .ok (.tuple #[.agg #[.string ⟨#[]⟩], .bool false]) w := by kernel_rfl
theorem as137_134 (v : Value) (w : World) : (Instr.typeAssert (.iface 137 v) 106 134 true).run Tryd.prog w = .ok (.tuple #[.agg #[.string ⟨#[]⟩], .bool false]) w := by kernel_rfl
theorem as133_136 (v : Value) (w : World) : (Instr.typeAssert (.iface 133 v) 106 136 true).run Tryd.prog w = .ok (.tuple #[.agg #[.string ⟨#[]⟩], .bool false]) w := by kernel_rfl
theorem as134_136 (v : Value) (w : World) : (Instr.typeAssert (.iface 134 v) 106 136 true).run Tryd.prog w = .ok (.tuple #[.agg #[.string ⟨#[]⟩], .bool false]) w := by kernel_rfl
theorem as136_136 (v : Value) (w : World) : (Instr.typeAssert (.iface 136 v) 106 136 true).run Tryd.prog w = .ok (.tuple #[v, .bool true]) w := by kernel_rfl
theorem as137_136 (v : Value) (w : World) : (Instr.typeAssert (.iface 137 v) 106 136 true).run Tryd.prog w = .ok (.tuple #[.agg #[.string ⟨#[]⟩], .bool false]) w := by kernel_rfl
theorem ret_s {a b : ByteArray} (h : a = b) : Ending.returned (.string a) = .returned (.string b) := by rw [h]
set_option maxRecDepth 100000 in
theorem sign93 (k : Int) (s : ByteArray) (w : World) : Calls Tryd.prog 93 #[.iface (ruleT k) (.agg #[.string s])] w fun e w' => e = .returned (.string (signB k)) ∧ w' = w := by
  by_cases h1 : k = 1
  · have HS := Lib.hid (show signB k = ⟨#[61]⟩ by simp [signB, h1])
    rw [show ruleT k = 133 by simp [ruleT, h1]]
    have a133 := as133_133
    clear h1
    go_enter Tryd.func93, Tryd.ntmps93
    go_wp2
    go_ret
    exact ⟨ret_s HS.out.symm, rfl⟩
  by_cases h2 : k = 2
  · have HS := Lib.hid (show signB k = ⟨#[33, 61]⟩ by simp [signB, h2])
    rw [show ruleT k = 134 by simp [ruleT, h2]]
    have a133 := as134_133
    have a134 := as134_134
    clear h1 h2
    go_enter Tryd.func93, Tryd.ntmps93
    go_wp2
    go_ret
    exact ⟨ret_s HS.out.symm, rfl⟩
  by_cases h3 : k = 3
  · have HS := Lib.hid (show signB k = ⟨#[61, 126]⟩ by simp [signB, h3])
    rw [show ruleT k = 136 by simp [ruleT, h3]]
    have a133 := as136_133
    have a134 := as136_134
    have a136 := as136_136
    clear h1 h2 h3
    go_enter Tryd.func93, Tryd.ntmps93
    go_wp2
    go_ret
    exact ⟨ret_s HS.out.symm, rfl⟩
  have HS := Lib.hid (show signB k = ⟨#[33, 126]⟩ by simp [signB, h1, h2, h3])
  rw [show ruleT k = 137 by simp [ruleT, h1, h2, h3]]
  have a133 := as137_133
  have a134 := as137_134
  have a136 := as137_136
  clear h1 h2 h3
  go_enter Tryd.func93, Tryd.ntmps93
  go_wp2
  go_ret
  exact ⟨ret_s HS.out.symm, rfl⟩
end Go.Proofs.YtpbcgfgjdimpmaaDoor
