/-
  The law FamilyTells where a family or the list is not light.
-/
import Derived.Deep.RegionHeld
import Derived.Deep.CutRange
import Derived.Test.YtgjphbkaonaneaaDoorGzH
namespace Go.Proofs.YtgjphbkaonaneaaDoor
set_option linter.unusedSimpArgs false
open Go Go.RowKit Go.Shelf Go.Ev

/-- what stands so far: w is as it was, and these blocks lie as said -/
def Stt (w : World) (ks : List (Nat × Obj)) (y : World) : Prop := Below w.heap.size w y ∧ ∀ p ∈ ks, p.1 < y.heap.size ∧ y.heap[p.1]? = some p.2
theorem Stt.step {w y y' : World} {ks : List (Nat × Obj)} (h : Stt w ks y) (hb : Below y.heap.size y y') : Stt w ks y' :=
  ⟨h.1.trans (hb.mono h.1.size), fun p hp => ⟨Nat.lt_of_lt_of_le (h.2 p hp).1 hb.size, (hb.block _ (h.2 p hp).1).trans (h.2 p hp).2⟩⟩
theorem Stt.start (w : World) : Stt w [] w := ⟨Below.refl _ _, fun _ h => by cases h⟩
theorem Stt.drew {w y : World} {ks : List (Nat × Obj)} (h : Stt w ks y) : Stt w ks y.drew := ⟨h.1.drew, h.2⟩
theorem Stt.put {w y : World} {ks : List (Nat × Obj)} (h : Stt w ks y) (o : Obj) : Stt w ((y.heap.size, o) :: ks) (y.alloc o) := by
  have hb : Below y.heap.size y (y.alloc o) := (Below.refl _ y).alloc (Nat.le_refl _) o
  refine ⟨h.1.trans (hb.mono h.1.size), fun p hp => ?_⟩
  rcases List.mem_cons.1 hp with rfl | hp
  · exact ⟨by simp, heap_alloc_new _ _⟩
  · exact ⟨Nat.lt_of_lt_of_le (h.2 p hp).1 hb.size, (hb.block _ (h.2 p hp).1).trans (h.2 p hp).2⟩
theorem Stt.put' {w y : World} {ks : List (Nat × Obj)} (h : Stt w ks y) (o : Obj) (b : Nat) (hb : y.heap.size = b) : Stt w ((b, o) :: ks) (y.alloc o) := hb ▸ h.put o
theorem Stt.drop {w y : World} {p : Nat × Obj} {ks : List (Nat × Obj)} (h : Stt w (p :: ks) y) : Stt w ks y := ⟨h.1, fun q hq => h.2 q (List.mem_cons_of_mem _ hq)⟩
theorem Stt.nth {w y : World} {ks : List (Nat × Obj)} (h : Stt w ks y) (i : Nat) {b : Nat} {o : Obj} (e : ks[i]? = some (b, o)) : y.heap[b]? = some o := (h.2 _ (List.mem_of_getElem? e)).2
theorem fam4 {y : World} {b : Nat} {v0 v1 v2 v3 : Value} (h : y.heap[b]? = some (.cells #[v0, v1, v2, v3] 37 (0, 0))) : y.cell? ⟨b, 0, none⟩ = some v0 ∧ y.cell? ⟨b, 1, none⟩ = some v1 ∧ y.cell? ⟨b, 2, none⟩ = some v2 ∧ y.cell? ⟨b, 3, none⟩ = some v3 := by
  refine ⟨?_, ?_, ?_, ?_⟩ <;> (simp only [World.cell?, h]; rfl)

set_option maxRecDepth 100000 in
set_option maxHeartbeats 8000000 in
theorem FamilyTells_heavy (n1 n2 n1' n2' n3 : Nat) (mn mx : Int) (A B : Option Addr) (c1 c2 : Nat) (mn' mx' : Int) (A' B' : Option Addr) (c1' c2' : Nat) (C : Option Addr) (c3 : Nat) (w : World) (hT : TabIn w) (hl : (lightB n1 n2 n1' n2' && decide (n3 ≤ 100)) = false) :
    Calls Tryd.prog 4 #[.agg #[.slice A n1 c1, .slice B n2 c2, .int .i64 mn, .int .i64 mx], .agg #[.slice A' n1' c1', .slice B' n2' c2', .int .i64 mn', .int .i64 mx'], .slice C n3 c3] w fun e w' => e = .returned (.bool true) ∧ Below w.heap.size w w' := by
  have AW := Lib.hid (fun w1 (h : Below w.heap.size w w1) => fawake_any w1 (hT.below h hT.lt))
  have LT := Lib.hid (fun w1 b h => light2_any n1 n2 n1' n2' A B A' B' c1 c2 c1' c2' mn mx mn' mx' b w1 h)
  have ST := Lib.hid (show Stt w [(w.heap.size + 1, .cells #[.slice A' n1' c1', .slice B' n2' c2', .int .i64 mn', .int .i64 mx'] 37), (w.heap.size, .cells #[.slice A n1 c1, .slice B n2 c2, .int .i64 mn, .int .i64 mx] 37)] ((w.alloc (.cells #[.slice A n1 c1, .slice B n2 c2, .int .i64 mn, .int .i64 mx] 37)).alloc (.cells #[.slice A' n1' c1', .slice B' n2' c2', .int .i64 mn', .int .i64 mx'] 37)) from Stt.put' (Stt.put (Stt.start w) (.cells #[.slice A n1 c1, .slice B n2 c2, .int .i64 mn, .int .i64 mx] 37)) (.cells #[.slice A' n1' c1', .slice B' n2' c2', .int .i64 mn', .int .i64 mx'] 37) _ (by simp))
  clear hT
  cases hLB : lightB n1 n2 n1' n2' with
  | false =>
    rw [hLB] at LT
    clear hl hLB
    go_enter Tryd.func4, Tryd.ntmps4
    go_upto_region 1 with fail
    generalize ((w.alloc (.cells #[.slice A n1 c1, .slice B n2 c2, .int .i64 mn, .int .i64 mx] 37)).alloc (.cells #[.slice A' n1' c1', .slice B' n2' c2', .int .i64 mn', .int .i64 mx'] 37)) = W0 at *
    obtain ⟨x0, x1, x2, x3⟩ := fam4 (ST.out.nth 1 rfl)
    obtain ⟨x4, x5, x6, x7⟩ := fam4 (ST.out.nth 0 rfl)
    go_wp2_with (first | (go_at_call 25; refine (LT.out _ _ (heap_alloc_new _ _)).mono ?_; rintro e y1 ⟨rfl, hb⟩; have S1 := Lib.hid ((ST.out.put _).step hb); clear hb LT) | (go_at_call 26; refine (AW.out _ S1.out.1).mono ?_; rintro e y2 ⟨rfl, hb⟩; have S2 := Lib.hid (S1.out.step hb); clear hb AW))
    go_ret
    exact ⟨rfl, S2.out.1⟩
  | true =>
    rw [hLB] at LT
    have y1 : (100 : Int) < (n3 : Int) := by
      rw [hLB, Bool.true_and, decide_eq_false_iff_not] at hl
      omega
    clear hl hLB
    go_enter Tryd.func4, Tryd.ntmps4
    go_upto_region 1 with fail
    generalize ((w.alloc (.cells #[.slice A n1 c1, .slice B n2 c2, .int .i64 mn, .int .i64 mx] 37)).alloc (.cells #[.slice A' n1' c1', .slice B' n2' c2', .int .i64 mn', .int .i64 mx'] 37)) = W0 at *
    obtain ⟨x0, x1, x2, x3⟩ := fam4 (ST.out.nth 1 rfl)
    obtain ⟨x4, x5, x6, x7⟩ := fam4 (ST.out.nth 0 rfl)
    go_wp2_with (first | (go_at_call 25; refine (LT.out _ _ (heap_alloc_new _ _)).mono ?_; rintro e y1 ⟨rfl, hb⟩; have S1 := Lib.hid ((ST.out.put _).step hb); clear hb LT) | (go_at_call 26; refine (AW.out _ S1.out.1).mono ?_; rintro e y2 ⟨rfl, hb⟩; have S2 := Lib.hid (S1.out.step hb); clear hb AW))
    go_ret
    exact ⟨rfl, S2.out.1⟩
end Go.Proofs.YtgjphbkaonaneaaDoor
