
/- The key types of the maps: pairs of points and blocks. -/
import Derived.Test.YtlchcnngikgjjaaProg
import Derived.Test.YtlchcnngikgjjaaMaps
import Derived.Test.YtlchcnngikgjjaaA
import Derived.ProofKit
namespace Go.Proofs.Ytlchcnngikgjjaa
open Go.RowKit Go.Maps

theorem laidOut : laidOutB Try.prog = true := by kernel_rfl
theorem pairRow : (116 : TypeId) < Try.prog.types.size := of_decide_eq_true (by kernel_rfl)
theorem blockRow : (62 : TypeId) < Try.prog.types.size := of_decide_eq_true (by kernel_rfl)
theorem pairKeyed : Keyed Try.prog 116 := Keyed.of_law (deep_law_laid laidOut (m := 3) (by omega) pairRow (by kernel_rfl) (by kernel_rfl))
theorem blockKeyed : Keyed Try.prog 62 := Keyed.of_law (deep_law_laid laidOut (m := 3) (by omega) blockRow (by kernel_rfl) (by kernel_rfl))
def pv (p : Int × Int) : Value := .agg #[.int .i64 p.1, .int .i64 p.2]
theorem pv_inj {p q : Int × Int} (h : pv p = pv q) : p = q := by
  obtain ⟨a, b⟩ := p
  obtain ⟨c, d⟩ := q
  simp [pv] at h
  simp [h]
theorem bv_inj {x y : Blk} (h : bv x = bv y) : x = y := by
  obtain ⟨a, b, c⟩ := x
  obtain ⟨d, e, f⟩ := y
  simp [bv] at h
  simp [h]
/-- The integer fits. -/
def WF (a : Int) : Prop := (Lit.int .i64 a).wf = true
theorem pairT : Try.prog.keyType 116 = true := by kernel_rfl
theorem blockT : Try.prog.keyType 62 = true := by kernel_rfl
theorem pairCells : Try.prog.cellsOf 116 = 2 := by kernel_rfl
theorem blockCells : Try.prog.cellsOf 62 = 3 := by kernel_rfl
theorem int64Cells : Try.prog.cellsOf 2 = 1 := by kernel_rfl
theorem typesSize : ∃ n, Try.prog.types.size = n + 1 := Nat.exists_eq_succ_of_ne_zero (Nat.ne_of_gt (Nat.lt_of_le_of_lt (Nat.zero_le _) pairRow))
theorem pv_key {a b : Int} (ha : WF a) (hb : WF b) : ∃ kl, keyOf Try.prog 116 (.agg #[.int .i64 a, .int .i64 b]) = some kl := by
  unfold WF at ha hb
  obtain ⟨n, hn⟩ := typesSize
  have r2 : List.range 2 = [0, 1] := rfl
  simp [keyOf, Try.underlying116, pairT, Value.formed, pairCells, hn, Program.keyLits, Try.underlying2, int64Cells, Value.cells, ha, hb, r2]
theorem bv_key {a b c : Int} (ha : WF a) (hb : WF b) (hc : WF c) : ∃ kl, keyOf Try.prog 62 (.agg #[.int .i64 a, .int .i64 b, .int .i64 c]) = some kl := by
  unfold WF at ha hb hc
  obtain ⟨n, hn⟩ := typesSize
  have r2 : List.range 3 = [0, 1, 2] := rfl
  simp [keyOf, Try.underlying62, blockT, Value.formed, blockCells, hn, Program.keyLits, Try.underlying2, int64Cells, Value.cells, ha, hb, hc, r2]
end Go.Proofs.Ytlchcnngikgjjaa
