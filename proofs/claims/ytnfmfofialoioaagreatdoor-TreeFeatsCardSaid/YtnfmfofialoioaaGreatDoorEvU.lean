/-
  What single operations give on values that are named.
-/
import Derived.Test.YtnfmfofialoioaaGreatDoorEvS
import Derived.Laws.StructEq
import Derived.Laws.BitsLemmas
namespace Go.Ev
open Go Go.RowKit

theorem one_sym {w0 : W0} {φ : Pm} (sy : Sy w0 φ) {r : Nat} {v : Value} (h : VR φ (.chan (some r)) v) : v = w0.env r := by
  cases h with
  | leaf hl => simp [leafB] at hl
  | top hr _ _ => exact sy.2 _ _ hr
section
variable {P : Program} {w : World} {t : TypeId} {xo yo : Operand}
theorem op_add {a b : Int} (h1 : -9223372036854775808 ≤ a + b) (h2 : a + b ≤ 9223372036854775807) : (do eqGuard .add t xo yo (.int .i64 a) (.int .i64 b); binOp .add t (.int .i64 a) (.int .i64 b) : Sem Value).run P w = .ok (.int .i64 (a + b)) w := by
  have hw : IntKind.i64.wrap (a + b) = a + b := by rw [IntKind.wrap_i64]; omega
  simp [eqGuard, binOp, go_sem, hw]
theorem op_gtr {a b : Int} : (do eqGuard .gtr t xo yo (.int .i64 a) (.int .i64 b); binOp .gtr t (.int .i64 a) (.int .i64 b) : Sem Value).run P w = .ok (.bool (decide (a > b))) w := by
  simp [eqGuard, binOp, go_sem]
theorem op_len_string {s : ByteArray} {ty : TypeId} (h : P.underlying t = some .string) : (Builtin.len_ #[t] ty #[.string s]).run P w = .ok (.int .i64 s.size) w := by
  simp [Builtin.len_, run_underlying h]
  rfl
end
end Go.Ev
