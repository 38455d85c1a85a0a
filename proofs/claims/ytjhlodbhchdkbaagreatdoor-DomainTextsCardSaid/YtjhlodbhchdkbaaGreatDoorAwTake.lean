/-
  A queue of one number: the number is taken.
-/
import Derived.Test.YtjhlodbhchdkbaaGreatDoorRows
import Derived.Test.YtjhlodbhchdkbaaGreatDoorEvX
import Derived.WalkKit
import Derived.Handy
import Derived.Lib.Hide
import Derived.WalkLawsBesides
import Derived.Deep.RegionHeld3
import Derived.Deep.QuietTactic
import Derived.BigQuiet
import Derived.WalkSmall
import Derived.OneCell
namespace Go.Proofs.YtjhlodbhchdkbaaGreatDoor
open Go Go.RowKit Go.Ev

set_option maxRecDepth 100000 in
set_option maxHeartbeats 4000000 in
theorem take_last (qb qo B o : Nat) (n : Int) (w : World) (h1 : w.cell? ⟨qb, qo, none⟩ = some (.slice (some ⟨B, o, none⟩) 1 1)) (h2 : w.cell? ⟨B, o, none⟩ = some (.int .i64 n)) (hf : w.frozen? ⟨qb, qo, none⟩ = false) :
    Calls Tryz.prog 40 #[.pointer (some ⟨qb, qo, none⟩)] w fun e w' => e = .returned (.tuple #[.int .i64 n, .bool true]) ∧ w' = (w.setCell ⟨qb, qo, none⟩ (.slice (some ⟨B, o, none⟩) 0 0)).drew := by
  go_enter Tryz.func40, Tryz.ntmps40
  go_wp2_with fail
  go_region
  go_wp2_with fail
  exact bodyPost_ret (v := .tuple #[.int .i64 n, .bool true]) (by simp [results, Tryz.results40, go_sem]) rfl ⟨rfl, rfl⟩
set_option maxRecDepth 100000 in
set_option maxHeartbeats 4000000 in
theorem take_more (qb qo B o c : Nat) (n : Int) (w : World) (h1 : w.cell? ⟨qb, qo, none⟩ = some (.slice (some ⟨B, o, none⟩) 1 (c + 2))) (h2 : w.cell? ⟨B, o, none⟩ = some (.int .i64 n)) (hf : w.frozen? ⟨qb, qo, none⟩ = false) :
    Calls Tryz.prog 40 #[.pointer (some ⟨qb, qo, none⟩)] w fun e w' => e = .returned (.tuple #[.int .i64 n, .bool true]) ∧ w' = (w.setCell ⟨qb, qo, none⟩ (.slice (some ⟨B, o + 1, none⟩) 0 (c + 1))).drew := by
  have e1 : ((c + 2 : Nat) : Int) = (c : Int) + 2 := by omega
  go_enter Tryz.func40, Tryz.ntmps40
  go_wp2_with fail
  go_region
  go_wp2_with fail
  exact bodyPost_ret (v := .tuple #[.int .i64 n, .bool true]) (by simp [results, Tryz.results40, go_sem]) rfl ⟨rfl, rfl⟩
theorem take_ok : TakeOk Tryz.prog 40 := by
  have hn : ¬ Tryz.f40.name = "runtime.NumGoroutine" := by decide +kernel
  have hb : ¬ Tryz.f40.body = none := fun e => by cases e
  refine ⟨fun args w => by simp [callFunc, Tryz.func40, hn, hb], fun qb qo B o c n w h1 h2 hf hc => ?_⟩
  match c, hc with
  | 1, _ => simpa using take_last qb qo B o n w h1 h2 hf
  | c + 2, _ => simpa using take_more qb qo B o c n w h1 h2 hf
end Go.Proofs.YtjhlodbhchdkbaaGreatDoor
