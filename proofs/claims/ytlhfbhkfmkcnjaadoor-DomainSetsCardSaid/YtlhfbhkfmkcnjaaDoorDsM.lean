/-
  Meet, Join and Minus: the program's.
-/
import Derived.Test.YtlhfbhkfmkcnjaaDoorDsLMeet
import Derived.Test.YtlhfbhkfmkcnjaaDoorDsLJoin
import Derived.Test.YtlhfbhkfmkcnjaaDoorDsLMinus
namespace Go.Proofs.YtlhfbhkfmkcnjaaDoor
open Go Go.RowKit Go.Ev

/-- what two domains put together come out as: the numbers as ranges, or an error -/
def CombOk (f : Bool → Bool → Bool) (a b : List (Int × Int)) (w : World) (e : Ending) (w' : World) : Prop :=
  Below w.heap.size w w' ∧ (if (vd 0 a && vd 0 b) = true then ∃ v, e = .returned (.tuple #[v, .int .i64 0]) ∧ w'.ownsRow w.heap.size 60 2 v (addTo (combV f a b)).length (pairCells (addTo (combV f a b)).reverse) ∧ (v = .slice none 0 0 ↔ addTo (combV f a b) = [])
        else e = .returned (.tuple #[.slice none 0 0, .int .i64 2]))
theorem CombOk.tup {f : Bool → Bool → Bool} {a b : List (Int × Int)} {w : World} {e : Ending} {w' : World} (h : CombOk f a b w e w') : ∃ v x, e = .returned (.tuple #[v, x]) := by
  obtain ⟨_, h⟩ := h
  split at h
  · obtain ⟨v, rfl, _⟩ := h; exact ⟨_, _, rfl⟩
  · subst h; exact ⟨_, _, rfl⟩
theorem CombOk.tup' {f : Bool → Bool → Bool} {a b : List (Int × Int)} {w : World} {e : Ending} {w' : World} (h : CombOk f a b w e w') : ∃ v x, e = .returned (.tuple #[v, x]) ∧ CombOk f a b w (.returned (.tuple #[v, x])) w' := by
  obtain ⟨v, x, rfl⟩ := h.tup
  exact ⟨v, x, rfl, h⟩
theorem Meet_p_any (a b : List (Int × Int)) (A B : Option Addr) (c1 c2 : Nat) (w : World) (ha : Pairs w A a) (hb : Pairs w B b) (hT : TabIn w) :
    Calls Tryd.prog 7 #[.slice A a.length c1, .slice B b.length c2] w (CombOk (fun p q => p && q) a b w) := by
  have C := Lib.hid (show Calls Tryd.prog 45 #[.slice A a.length c1, .slice B b.length c2, .func (.func 46) #[] #[]] w (CombOk (fun p q => p && q) a b w) from combineMeet_any a b A B c1 c2 w ha hb hT)
  have C2 := Lib.hid (C.out.mono (fun e w' h => CombOk.tup' h))
  clear C
  generalize CombOk (fun p q => p && q) a b w = Q at *
  go_enter Tryd.func7, Tryd.ntmps7
  go_wp2_with (go_at_call 45; refine C2.out.mono ?_; rintro e w1 ⟨v, x, rfl, hq⟩; have HQ := Lib.hid hq; clear hq)
  exact HQ.out
theorem Join_p_any (a b : List (Int × Int)) (A B : Option Addr) (c1 c2 : Nat) (w : World) (ha : Pairs w A a) (hb : Pairs w B b) (hT : TabIn w) :
    Calls Tryd.prog 10 #[.slice A a.length c1, .slice B b.length c2] w (CombOk (fun p q => p || q) a b w) := by
  have C := Lib.hid (show Calls Tryd.prog 45 #[.slice A a.length c1, .slice B b.length c2, .func (.func 48) #[] #[]] w (CombOk (fun p q => p || q) a b w) from combineJoin_any a b A B c1 c2 w ha hb hT)
  have C2 := Lib.hid (C.out.mono (fun e w' h => CombOk.tup' h))
  clear C
  generalize CombOk (fun p q => p || q) a b w = Q at *
  go_enter Tryd.func10, Tryd.ntmps10
  go_wp2_with (go_at_call 45; refine C2.out.mono ?_; rintro e w1 ⟨v, x, rfl, hq⟩; have HQ := Lib.hid hq; clear hq)
  exact HQ.out
theorem Minus_p_any (a b : List (Int × Int)) (A B : Option Addr) (c1 c2 : Nat) (w : World) (ha : Pairs w A a) (hb : Pairs w B b) (hT : TabIn w) :
    Calls Tryd.prog 12 #[.slice A a.length c1, .slice B b.length c2] w (CombOk (fun p q => p && !q) a b w) := by
  have C := Lib.hid (show Calls Tryd.prog 45 #[.slice A a.length c1, .slice B b.length c2, .func (.func 49) #[] #[]] w (CombOk (fun p q => p && !q) a b w) from combineMinus_any a b A B c1 c2 w ha hb hT)
  have C2 := Lib.hid (C.out.mono (fun e w' h => CombOk.tup' h))
  clear C
  generalize CombOk (fun p q => p && !q) a b w = Q at *
  go_enter Tryd.func12, Tryd.ntmps12
  go_wp2_with (go_at_call 45; refine C2.out.mono ?_; rintro e w1 ⟨v, x, rfl, hq⟩; have HQ := Lib.hid hq; clear hq)
  exact HQ.out
end Go.Proofs.YtlhfbhkfmkcnjaaDoor
