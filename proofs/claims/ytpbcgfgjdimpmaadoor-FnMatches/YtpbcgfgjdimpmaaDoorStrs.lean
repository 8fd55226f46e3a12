/- Small facts on texts, and the type of texts in this seat's translation. -/
import Derived.Test.YtpbcgfgjdimpmaaDoorListm
import Derived.Deep.AppendLies
namespace Go.Proofs.YtpbcgfgjdimpmaaDoor
open Go.RowKit Go.Deep

theorem str_ext {a b : ByteArray} (h : a.data.toList = b.data.toList) : a = b := data_inj h
theorem data_add (a b : ByteArray) : (a ++ b).data.toList = a.data.toList ++ b.data.toList := by simp
theorem size_len (a : ByteArray) : a.size = a.data.toList.length := Array.length_toList.symm
theorem Tryd.info9 : (Tryd.prog.info? 9).map (fun i => (i.zero, i.size, i.bytes)) = some (some (.string ⟨#[]⟩), 1, 16) := by kernel_rfl
end Go.Proofs.YtpbcgfgjdimpmaaDoor
