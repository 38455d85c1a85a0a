/-
  A list copied.
-/
import Derived.Maps.AppendAt
import Derived.Lib.SliceRun
import Derived.Deep.MidRow
import Derived.Test.YtlhfbhkfmkcnjaaDoorFhR
namespace Go.Proofs.YtlhfbhkfmkcnjaaDoor
open Go Go.RowKit Go.Ev

/-- a copy: a row of one's own -/
def CloneOk (xs : List Int) (w : World) (e : Ending) (w' : World) : Prop := ∃ A cap, e = .returned (.slice A xs.length cap) ∧ xs.length ≤ cap ∧ (0 < xs.length → ∃ g, A = some ⟨g, 0, none⟩ ∧ w.heap.size ≤ g ∧ RowAt w' g xs) ∧ Below w.heap.size w w'
theorem rowAt_of_owns {W : World} {base n cap : Nat} {G : Option Addr} {xs : List Int} (h : W.ownsRow base 3 1 (.slice G xs.length cap) n (xs.map (Value.int .i64))) (hp : 0 < xs.length) : ∃ g, G = some ⟨g, 0, none⟩ ∧ base ≤ g ∧ RowAt W g xs := by
  obtain ⟨h1, h2⟩ := h
  rcases h2 with ⟨hv, _⟩ | ⟨g', cap', cur, hv, hb, hg, hc, hm, hs, ht⟩
  · simp only [Value.slice.injEq] at hv; omega
  · cases hv
    refine ⟨g', rfl, hb, fun j hj => ⟨?_, by simp [World.frozen?, hg]⟩⟩
    have : (cur.toList.take (xs.length * 1))[j]? = some (.int .i64 xs[j]) := by rw [ht]; simp [List.getElem?_eq_getElem hj]
    rw [List.getElem?_take] at this
    split at this
    · simp only [World.cell?, hg]; simpa using this
    · cases this
theorem own_empty (w : World) : (w.alloc (.cells #[] 3)).ownsRow w.heap.size 3 1 (.slice (some ⟨w.heap.size, 0, none⟩) 0 0) 0 [] :=
  ⟨rfl, .inr ⟨w.heap.size, 0, #[], rfl, Nat.le_refl _, heap_alloc_new _ _, Nat.le_refl _, by decide, rfl, rfl⟩⟩
set_option maxRecDepth 100000 in
set_option maxHeartbeats 4000000 in
theorem clone_any (xs : List Int) (A : Option Addr) (c : Nat) (w : World) (ha : Ints w A xs) :
    Calls Tryd.prog 113 #[.slice A xs.length c] w (CloneOk xs w) := by
  obtain ⟨i0, hi, hz0, hz1, hz2⟩ := info_parts infoI
  have hl := ha.1
  have HA := Lib.hid ha.2.2
  clear ha
  cases A with
  | none =>
    have h0 : xs.length = 0 := by
      rcases Nat.eq_zero_or_pos xs.length with h | h
      · exact h
      · obtain ⟨b, off, e, _⟩ := HA.out h; cases e
    obtain rfl : xs = [] := List.eq_nil_of_length_eq_zero h0
    clear HA h0 hl
    have hk : CloneOk [] w (.returned (.slice none 0 0)) w := ⟨none, 0, rfl, Nat.le_refl _, fun h => absurd h (by simp), Below.refl _ _⟩
    have HK := Lib.hid hk
    clear hk
    generalize CloneOk [] w = Q at *
    have q1 : ∀ w, (binOp .eql 23 (.slice none 0 c) (.slice none 0 0)).run Tryd.prog w = .ok (.bool true) w := fun w => Lib.run_eql_slice_nil (P := Tryd.prog) w 23 3 none 0 c 0 0 Tryd.underlying23
    go_enter Tryd.func113, Tryd.ntmps113
    go_wp2_with fail
    exact HK.out
  | some a =>
    obtain ⟨Q, hQ⟩ : ∃ Q, CloneOk xs w = Q := ⟨_, rfl⟩
    rw [hQ]
    have HQ := Lib.hid hQ
    clear hQ
    have q1 : ∀ w, (binOp .eql 23 (.slice (some a) xs.length c) (.slice none 0 0)).run Tryd.prog w = .ok (.bool false) w := fun w => Lib.run_eql_slice_nil (P := Tryd.prog) w 23 3 (some a) xs.length c 0 0 Tryd.underlying23
    go_enter Tryd.func113, Tryd.ntmps113
    repeat ((fail_if_success at_builtin); go_step)
    at_builtin
    refine wpList_append_own_at _ rfl _ _ 23 rfl w.heap.size 3 i0 (.int .i64 0) 1 8 Tryd.underlying23 hi hz0 hz1 hz2 rfl (by decide) _ 0 [] rfl (own_empty w) a xs.length c (xs.map (Value.int .i64)) rfl (by simp) ?c1 ?c2 ?c3 ?c4 ?c5 ?_
    case c1 =>
      intro j u hj
      obtain ⟨hjl, he⟩ := List.getElem?_eq_some_iff.1 hj
      have hjx : j < xs.length := by simpa using hjl
      obtain ⟨b, off, e, hb, hc⟩ := HA.out (by omega)
      injection e with e
      subst e
      rw [Addr.add_mid]
      have c0 : (w.alloc (.cells #[] 3)).cell? ⟨b, off + j, none⟩ = w.cell? ⟨b, off + j, none⟩ := World.cell?_alloc_lt _ _ _ hb
      rw [c0, hc j hjx, ← he]
      simp
    case c2 =>
      intro u hu
      obtain ⟨y, _, rfl⟩ := List.mem_map.1 hu
      rfl
    case c3 => unfold maxLen; omega
    case c4 => omega
    case c5 => simp
    intro v' w2 hown hgrow hnil _
    rw [List.nil_append, Nat.zero_add] at hown
    obtain ⟨G, cap, hv, hlc⟩ : ∃ G cap, v' = .slice G xs.length cap ∧ xs.length ≤ cap := by
      rcases hown.2 with ⟨h0, _⟩ | ⟨g, cap, cur, h0, _, _, h1, _⟩
      · rw [hnil] at h0; cases h0.1
      · exact ⟨_, cap, h0, h1⟩
    subst hv
    have hk : CloneOk xs w (.returned (.slice G xs.length cap)) w2 := ⟨G, cap, rfl, hlc, fun h0 => rowAt_of_owns hown h0, ((Below.refl _ w).alloc (Nat.le_refl _) _).grown hgrow (by simp) (fun k e => by cases e; exact Nat.le_refl _)⟩
    rw [HQ.out] at hk
    have HK := Lib.hid hk
    clear hk hown hgrow hnil HA HQ
    go_wp2_with fail
    exact HK.out
end Go.Proofs.YtlhfbhkfmkcnjaaDoor
