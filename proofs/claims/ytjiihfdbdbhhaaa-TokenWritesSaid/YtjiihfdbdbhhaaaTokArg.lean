/-
  A slice of tokens that comes in as an argument: its cells, by index.
-/
import Derived.Test.YtjiihfdbdbhhaaaTokSh
import Derived.Deep.Slices
import Derived.ChangeOld
import Derived.OpenShut
namespace Go.Proofs.Ytjiihfdbdbhhaaa
open Go.RowKit T Go.Deep Go.ChangeShapes Go.WideShapes

section
variable {H : Type} {enc : TypeId × Value → H} {w : World} {base : Nat} {spare : Nat → Bool} {held : Bool}

theorem cell_lt {w : World} {a : Addr} {v : Value} (h : w.cell? a = some v) : a.block < w.heap.size := by
  rcases Nat.lt_or_ge a.block w.heap.size with h' | h'
  · exact h'
  · simp [World.cell?, Array.getElem?_eq_none h'] at h
theorem tok_one {n : Nat} {cs : List Value} {x : DataW H × List MemPlace} (h : DataW.trod enc Try.prog w base spare held n 33 cs = some x) :
    ∃ q : ByteArray × ByteArray × Int, cs = [.string q.1, .string q.2.1, .int .i64 q.2.2] := by
  obtain ⟨xs, k, _, _, hcl, hxl, hf⟩ := DataW.trod_struct Try.underlying33 h
  have hcl : cs.length = 3 := hcl.trans (by kernel_rfl)
  match cs, hcl with
  | [v0, v1, v2], _ =>
    match xs, hxl with
    | [y0, y1, y2], _ =>
      have cs1 : Try.prog.cellsOf 9 = 1 := by kernel_rfl
      have ci1 : Try.prog.cellsOf 3 = 1 := by kernel_rfl
      have g0 := hf 0 _ rfl
      have g1 := hf 1 _ rfl
      have g2 := hf 2 _ rfl
      change DataW.trod enc Try.prog w base spare held k 9 (List.take (Try.prog.cellsOf 9) [v0, v1, v2]) = some y0 at g0
      change DataW.trod enc Try.prog w base spare held k 9 (List.take (Try.prog.cellsOf 9) [v1, v2]) = some y1 at g1
      change DataW.trod enc Try.prog w base spare held k 3 (List.take (Try.prog.cellsOf 3) [v2]) = some y2 at g2
      rw [cs1] at g0 g1
      rw [ci1] at g2
      obtain ⟨s0, e0, _⟩ := DataW.trod_string Try.underlying9 g0
      obtain ⟨s1, e1, _⟩ := DataW.trod_string Try.underlying9 g1
      obtain ⟨i2, e2, _⟩ := DataW.trod_int Try.underlying3 g2
      simp only [List.take_succ_cons, List.take_zero, List.cons.injEq, and_true] at e0 e1 e2
      exact ⟨(s0, s1, i2), by rw [e0, e1, e2]⟩

theorem open_toks {n : Nat} {cs : List Value} {x : DataW H × List MemPlace} (h : DataW.trod enc Try.prog w base spare held n 23 cs = some x) :
    ∃ (A : Option Addr) (len cap : Nat) (ks : List (ByteArray × ByteArray × Int)), cs = [.slice A len cap] ∧ ks.length = len ∧ len ≤ maxLen ∧ ArgTk w A ks := by
  rcases open_slice Try.underlying23 h with ⟨rfl, _⟩ | ⟨a, len, cap, m, n', D, Pl, rfl, _, hl, hm, hmm, _, hx⟩
  · exact ⟨none, 0, 0, [], rfl, rfl, Nat.zero_le _, fun h0 => by cases h0⟩
  · have ce : Try.prog.cellsOf 33 = 3 := by kernel_rfl
    rw [ce] at hx
    have hlm : len ≤ m := by rw [hmm]; split <;> omega
    obtain ⟨q, hq⟩ := choose_lt (α := ByteArray × ByteArray × Int) (n := len) (p := fun i q => w.cell? (a.add (i * 3)) = some (.string q.1) ∧ w.cell? (a.add (i * 3 + 1)) = some (.string q.2.1) ∧ w.cell? (a.add (i * 3 + 2)) = some (.int .i64 q.2.2)) (fun i hi => by
      obtain ⟨cs', h1, h2⟩ := hx i (by omega)
      obtain ⟨q, rfl⟩ := tok_one h2
      obtain ⟨_, _, hcell⟩ := World.cells?_some h1
      have e0 := hcell 0 (by omega)
      have e1 := hcell 1 (by omega)
      have e2 := hcell 2 (by omega)
      rw [add_add] at e0 e1 e2
      exact ⟨q, e0, e1, e2⟩)
    refine ⟨some a, len, cap, (List.range len).map q, rfl, by simp, by omega, fun h0 => ?_⟩
    have hp : 0 < len := by simpa using h0
    obtain ⟨b, off, spot⟩ := a
    have hz := (hq 0 hp).1
    have hspot : spot = none := by simpa [Addr.add] using World.cell?_spot hz
    subst hspot
    have hb := cell_lt hz
    rw [add_plain] at hb
    refine ⟨b, off, rfl, hb, fun j hj => ?_⟩
    have hj' : j < len := by simpa using hj
    obtain ⟨c0, c1, c2⟩ := hq j hj'
    rw [add_plain] at c0 c1 c2
    simp only [List.getElem_map, List.getElem_range]
    exact ⟨c0, by rw [← Nat.add_assoc] at c1; exact c1, by rw [← Nat.add_assoc] at c2; exact c2⟩
end
end Go.Proofs.Ytjiihfdbdbhhaaa
