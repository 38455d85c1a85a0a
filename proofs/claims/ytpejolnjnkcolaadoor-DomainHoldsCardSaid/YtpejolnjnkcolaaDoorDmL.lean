/-
  The law of what holds: its body, run in every case of what its calls answer.
-/
import Derived.Test.YtpejolnjnkcolaaDoorDmG
import Derived.Test.YtpejolnjnkcolaaDoorEvM7
namespace Go.Proofs.YtpejolnjnkcolaaDoor
open Go Go.Ev Go.RowKit

noncomputable def dTab : Tab := [(4, Tryd.f4), (24, Tryd.f24)]
theorem dtab_cons {f : Nat} {fn : Func} {t : Tab} (h : Tryd.prog.funcs[f]? = some fn ∧ ∀ args w, (callFunc f args).run Tryd.prog w = .ok (.enter f args) w) (ht : Tab.ok Tryd.prog t) : Tab.ok Tryd.prog ((f, fn) :: t) := fun k g hk => by
  simp only [Tab.find] at hk
  split at hk
  · rename_i e
    cases hk
    rw [← Nat.eq_of_beq_eq_true e]
    exact h
  · exact ht k g hk
theorem dTab_ok : dTab.ok Tryd.prog :=
  dtab_cons ⟨Tryd.func4, enters Tryd.func4 (by decide +kernel) (by kernel_rfl)⟩ <|
  dtab_cons ⟨Tryd.func24, enters Tryd.func24 (by decide +kernel) (by kernel_rfl)⟩ <|
  tab_nil
def dOps (b5 b6 b7 b8 : Bool) : OpO where
  bin b _ v u := match b, v, u with
    | .gtr, .chan (some 5), .int .i64 50 => some (.bool b5)
    | .gtr, .chan (some 6), .int .i64 50 => some (.bool b6)
    | .gtr, .chan (some 7), .int .i64 100 => some (.bool b7)
    | .gtr, .chan (some 8), .int .i64 100 => some (.bool b8)
    | _, _, _ => none
  len t v := if Nat.beq t 9 then (match v with
    | .chan (some 0) => some (.chan (some 7))
    | _ => none) else if Nat.beq t 23 then (match v with
    | .chan (some 1) => some (.chan (some 5))
    | .chan (some 2) => some (.chan (some 6))
    | .chan (some 4) => some (.chan (some 8))
    | _ => none) else none
  un _ _ := none
def dOrc (small h : Bool) : Orc := fun k args _ => match args with
  | [] => if Nat.beq k 5 then some (.bool true) else none
  | [.agg ⟨[.chan (some 0), .chan (some 1), .chan (some 2), .chan (some 3)]⟩, .chan (some 4)] => if small && (Nat.beq k 25 || Nat.beq k 26) then some (.bool h) else none
  | _ => none
def dArgs : List Value := [.agg ⟨[.chan (some 0), .chan (some 1), .chan (some 2), .chan (some 3)]⟩, .chan (some 4)]
def dBools : List Bool := [true, false]
set_option maxRecDepth 100000 in
theorem d_all : (dBools.all fun b5 => dBools.all fun b6 => dBools.all fun b7 => dBools.all fun b8 => dBools.all fun h => gives Tryd.prog (dOps b5 b6 b7 b8) (dOrc (!(b5 || b6 || b7 || b8)) h) dTab [] 50 20 9 4 dArgs (.bool true)) = true := by kernel_rfl
end Go.Proofs.YtpejolnjnkcolaaDoor
