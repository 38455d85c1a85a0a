/-
  Which propagators are valid: the document's own answer.
-/
import Derived.Test.YtpejolnjnkcolaaDoorDmC
namespace Go.Proofs.YtpejolnjnkcolaaDoor
open Go.RowKit

def vpCore (vars least most : Int) (nz ng named : Bool) (vs cs : List Int) (n N : Int) : Bool :=
  decide (N ≤ 40 ∧ 1 ≤ vars ∧ vars ≤ 40 ∧ (vs.length : Int) = vars ∧ least ≤ cs.length ∧ (cs.length : Int) ≤ most) && vs.all (fun v => decide (0 ≤ v ∧ v < N)) &&
  cs.all (fun c => decide (-1000000 ≤ c ∧ c ≤ 1000000) && !(nz && c == 0) && !(ng && decide (c < 0))) && (!named || decide (-1000000 ≤ n ∧ n ≤ 1000000))

set_option maxRecDepth 100000 in
set_option maxHeartbeats 4000000 in
theorem vp_none (x : ByteArray) (A B : Option Addr) (l1 l2 c1 c2 : Nat) (n N : Int) (w : World) (k_sum : (x.toList == [115, 117, 109]) = false) (k_most : (x.toList == [109, 111, 115, 116]) = false) (k_distinct : (x.toList == [100, 105, 115, 116, 105, 110, 99, 116]) = false) (k_unlike : (x.toList == [117, 110, 108, 105, 107, 101]) = false) (k_product : (x.toList == [112, 114, 111, 100, 117, 99, 116]) = false) (k_max : (x.toList == [109, 97, 120]) = false) (k_reify : (x.toList == [114, 101, 105, 102, 121]) = false) (k_element : (x.toList == [101, 108, 101, 109, 101, 110, 116]) = false) (k_apart : (x.toList == [97, 112, 97, 114, 116]) = false) :
    Calls Tryd.prog 43 #[.agg #[.string x, .slice A l1 c1, .slice B l2 c2, .int .i64 n], .int .i64 N] w fun e w' => e = .returned (.bool false) ∧ Below w.heap.size w w' := by
  have B0 := Lib.hid (show ∀ o, Below w.heap.size w (w.alloc o) from fun o => (Below.refl _ _).alloc (Nat.le_refl _) _)
  go_enter Tryd.func43, Tryd.ntmps43
  go_wp2_with fail
  go_ret
  exact ⟨rfl, B0.out _⟩
end Go.Proofs.YtpejolnjnkcolaaDoor
