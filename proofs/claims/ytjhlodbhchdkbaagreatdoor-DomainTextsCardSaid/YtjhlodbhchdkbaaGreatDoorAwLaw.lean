/-
  Layer 6's own example runs to true, where the table of zeros lies.
-/
import Derived.Test.YtjhlodbhchdkbaaGreatDoorAwTab
import Derived.Test.YtjhlodbhchdkbaaGreatDoorAwTz
import Derived.Test.YtjhlodbhchdkbaaGreatDoorAwTake
import Derived.Test.YtjhlodbhchdkbaaGreatDoorRgM
namespace Go.Proofs.YtjhlodbhchdkbaaGreatDoor
open Go Go.Ev Go.RowKit

def tzOrc : Orc := fun k args _ => if Nat.beq k 77 then (match args with
  | [.int .u64 (.ofNat x)] => if Nat.blt x 18446744073709551616 then some (.int .i64 (Lib.ctz 64 x : Nat)) else none
  | _ => none) else none
theorem aw_enters {f : Nat} {fn : Func} (hf : Tryz.prog.funcs[f]? = some fn) (hn : (fn.name == "runtime.NumGoroutine") = false) (hb : fn.body.isNone = false) : ∀ args w, (callFunc f args).run Tryz.prog w = .ok (.enter f args) w := (aw_enter hf hn hb).2
theorem tzOrc_ok {w0 : W0} (hT : TabIn w0.w) : OrcOk Tryz.prog w0 tzOrc := by
  intro k args st v h φ args' w H hl
  unfold tzOrc at h
  split at h
  · rename_i hk
    obtain rfl := Nat.eq_of_beq_eq_true hk
    split at h
    · rename_i x
      split at h
      · rename_i hx
        have hx : x < 18446744073709551616 := by simp [Nat.blt] at hx; omega
        cases h
        obtain rfl := plain_list0 (d := 0) (xs := [.int .u64 (.ofNat x)]) rfl hl
        refine ⟨fun w => aw_enters Tryz.func77 (by decide +kernel) (by kernel_rfl) _ w, Calls.mono (tz_any x hx w (hT.below H.below hT.lt)) ?_⟩
        rintro e w' ⟨rfl, rfl⟩
        exact ⟨⟨_, rfl, .leaf rfl⟩, Below.refl _ _⟩
      · cases h
    · cases h
  · cases h
theorem ranges_ok {w0 : World} (hT : TabIn w0) : RangesOk Tryz.prog w0 42 38 := by
  refine ⟨fun args w => aw_enters Tryz.func42 (by decide +kernel) (by kernel_rfl) _ w, fun sb so ws w hb hsb hl hw hc => ?_⟩
  refine Calls.mono (callsIn_wide.1 (ranges_in 5 (by decide) sb so ws w hsb ⟨hl, hw, hc⟩ (hT.below hb hT.lt))) ?_
  rintro x w' ⟨v, rfl, h1, h2, h3⟩
  exact ⟨v, rfl, by rw [rangesOf_eq, List.length_reverse]; exact h1, h3⟩
noncomputable def awSpc : CallF := orS (takeS 40) (rangesS 42 38)
set_option maxRecDepth 100000 in
theorem awake_gives : givesS Tryz.prog noOpO tzOrc awSpc awTab [] 400 200 0 4 [] (.bool true) = true := by kernel_rfl
theorem awake_any (w : World) (hT : TabIn w) : Calls Tryz.prog 4 #[] w fun e w' => e = .returned (.bool true) ∧ Below w.heap.size w w' :=
  run_relS (w0 := bare w) awMixed awtab_ok (fun k fn h => by cases h) (Nat.le_refl _) (noOpO_ok _ _) (tzOrc_ok hT) (orS_ok (takeS_ok (noOpO_ok _ _) take_ok) (rangesS_ok (noOpO_ok _ _) (ranges_ok hT))) (args := []) (plain_rel (by rfl)) rfl awake_gives
end Go.Proofs.YtjhlodbhchdkbaaGreatDoor
