/-
  Two arrays of the same two ints are equal. No condition.
-/
import Derived.ChangeKeysEq
import Derived.Test.YtdlhfcapfbbjjaaUnf
namespace Go.Proofs.Ytdlhfcapfbbjjaa
open Go.RowKit

theorem und_arr2 : Try.prog.underlying 55 = some (.array 2 3) := by kernel_rfl
theorem und_int : Try.prog.underlying 3 = some (.int .i64) := by kernel_rfl
theorem cells_int1 : Try.prog.cellsOf 3 = 1 := by kernel_rfl
theorem eq_int (a : Int) (W : World) : (Op.equalIn 9999 3 (.int .i64 a) (.int .i64 a)).run Try.prog W = .ok true W := by
  have := run_equalIn_int (P := Try.prog) W 9998 3 .i64 .i64 a a und_int
  simpa using this
theorem eq2 (a b : Int) (W : World) : (Op.equalIn 10000 55 (.agg #[.int .i64 a, .int .i64 b]) (.agg #[.int .i64 a, .int .i64 b])).run Try.prog W = .ok true W := by
  obtain ⟨i0, hi, _, _, _⟩ := info_parts int_info
  have h := run_equalIn_array (P := Try.prog) W 9999 #[.int .i64 a, .int .i64 b] #[.int .i64 a, .int .i64 b] und_arr2 hi
  rw [h, cells_int1, show List.range 2 = [0, 1] from rfl]
  simp [Op.eqItems, part, eq_int, go_sem]

end Go.Proofs.Ytdlhfcapfbbjjaa
