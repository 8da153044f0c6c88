/-
  Two shares (arrays of two integers) compared.
-/
import Derived.Test.YtdpiepddafpceaaRecMill
import Derived.ChangeKeysEq
namespace Go.Proofs.Ytdpiepddafpceaa
open Go.ChangeShapes Go.WideShapes Go.ChangeAt Go.RowKit

theorem eq_share (x y u v : Int) (w : World) :
    (Op.equalIn 10000 62 (.agg #[.int .i64 x, .int .i64 y]) (.agg #[.int .i64 u, .int .i64 v])).run Try.prog w = .ok (x == u && y == v) w := by
  obtain ⟨i, hi⟩ : ∃ i, Try.prog.info? 2 = some i := ⟨_, rfl⟩
  have hc : Try.prog.cellsOf 2 = 1 := by kernel_rfl
  have hk : Try.prog.plainKey 2 = true := by kernel_rfl
  rw [run_equalIn_array w 9999 _ _ Try.underlying62 hi, hc]
  have hr : List.range 2 = [0, 1] := rfl
  rw [hr]
  have p0 : ∀ a b : Int, (part 2 #[.int .i64 a, .int .i64 b] (0 * 1)).run Try.prog w = .ok (.int .i64 a) w := fun a b => run_part_plain w hk rfl
  have p1 : ∀ a b : Int, (part 2 #[.int .i64 a, .int .i64 b] (1 * 1)).run Try.prog w = .ok (.int .i64 b) w := fun a b => run_part_plain w hk rfl
  have he : ∀ a b : Int, (Op.equalIn 9999 2 (.int .i64 a) (.int .i64 b)).run Try.prog w = .ok (a == b) w := fun a b => run_equalIn_int w 9998 _ _ .i64 a b Try.underlying2
  simp only [Op.eqItems, Sem.run_bind, p0, he, Result.andThen_ok]
  cases h0 : (x == u) <;> cases h1 : (y == v) <;> simp [p1, he, h1]
end Go.Proofs.Ytdpiepddafpceaa
