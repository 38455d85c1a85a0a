/-
  The law on two sources with a line's end between them.
-/
import Derived.Test.YtjiihfdbdbhhaaaTokAl
import Derived.Test.YtjiihfdbdbhhaaaTokTwo
namespace Go.Proofs.Ytjiihfdbdbhhaaa
open Go.RowKit T

theorem joins_cases (s t : List UInt8) (h : s.length + t.length < 20000) :
    ∃ ts1 b1 e1 ts2 b2 e2 ts3 b3 e3, scanT s = (ts1, b1, e1) ∧ scanT t = (ts2, b2, e2) ∧ scanT (s ++ 10 :: t) = (ts3, b3, e3) ∧
      (e1 = 10 ∨ (e1 = 0 ∧ e2 = 10 ∧ e3 = 10 ∧ b3 = b2 + (s.length : Int) + 1 ∧ 0 ≤ b2 ∧ b2 < 20000) ∨
        (e1 = 0 ∧ e2 = 0 ∧ e3 = 0 ∧ ts3 = ts1 ++ ts2.map (shiftTk (s.length + 1)) ∧ ts1.length + ts2.length ≤ 20000 ∧ ∀ x ∈ ts2, x.at_ < 20000)) := by
  refine ⟨(scanT s).1, (scanT s).2.1, (scanT s).2.2, (scanT t).1, (scanT t).2.1, (scanT t).2.2, (scanT (s ++ 10 :: t)).1, (scanT (s ++ 10 :: t)).2.1, (scanT (s ++ 10 :: t)).2.2, rfl, rfl, rfl, ?_⟩
  have hl := scanT_len (s ++ 10 :: t)
  have e3 := scanT_of (l := s ++ 10 :: t) (by simp; omega)
  have e1 := scanT_of (l := s) (by omega)
  have e2 := scanT_of (l := t) (by omega)
  rcases h1 : (scanN s (skipN s)).2 with _ | b1
  · rw [h1] at e1
    simp only [] at e1
    rw [scan_two s t h1] at e3
    right
    rcases h2 : (scanN t (skipN t)).2 with _ | b2
    · rw [h2] at e2 e3
      simp only [Option.map_none] at e2 e3
      rw [e3] at hl
      right
      rw [e1, e2, e3]
      refine ⟨rfl, rfl, rfl, rfl, by simpa using hl, fun x hx => ?_⟩
      have := (scan_at t (t.length + 1) _ (by omega) x hx).2
      omega
    · rw [h2] at e2 e3
      simp only [Option.map_some] at e2 e3
      left
      rw [e1, e2, e3]
      have := scan_bad_lt t (t.length + 1) (skipN t) (by omega) b2 h2
      exact ⟨rfl, rfl, rfl, by simp; omega, by simp, by simp; omega⟩
  · rw [h1] at e1
    simp only [] at e1
    left
    rw [e1]

def shK (n k : Nat) (ts : List Tk) : List Tk := (ts.take k).map (shiftTk n) ++ ts.drop k
theorem shK_length (n k : Nat) (ts : List Tk) : (shK n k ts).length = ts.length := by
  simp [shK]; omega
theorem shK_get (n k : Nat) (ts : List Tk) (h : k < ts.length) : (shK n k ts)[k]'(by rw [shK_length]; exact h) = ts[k] := by
  simp [shK, List.length_take, Nat.min_eq_left (Nat.le_of_lt h)]
theorem tkCells_app (a b : List Tk) : tkCells (a ++ b) = tkCells a ++ tkCells b := by simp [tkCells]
theorem tkCells_len (a : List Tk) : (tkCells a).length = a.length * 3 := by
  induction a with
  | nil => rfl
  | cons t ts ih =>
    rw [show tkCells (t :: ts) = [.string ⟨t.kind.toArray⟩, .string ⟨t.text.toArray⟩, .int .i64 (t.at_ : Int)] ++ tkCells ts from rfl]
    simp [ih]; omega
theorem shK_step (n k : Nat) (ts : List Tk) (h : k < ts.length) : (tkCells (shK n k ts)).set (k * 3 + 2) (.int .i64 ((ts[k].at_ + n : Nat) : Int)) = tkCells (shK n (k + 1) ts) := by
  have e1 : shK n k ts = (ts.take k).map (shiftTk n) ++ (ts[k] :: ts.drop (k + 1)) := by
    unfold shK; rw [List.drop_eq_getElem_cons h]
  have e2 : shK n (k + 1) ts = (ts.take k).map (shiftTk n) ++ (shiftTk n ts[k] :: ts.drop (k + 1)) := by
    unfold shK; rw [List.take_succ_eq_append_getElem h]; simp only [List.map_append, List.map_cons, List.map_nil, List.append_assoc, List.cons_append, List.nil_append]
  have hl : (tkCells ((ts.take k).map (shiftTk n))).length = k * 3 := by rw [tkCells_len]; simp; omega
  rw [e1, e2, tkCells_app, tkCells_app, List.set_append_right _ _ (by omega), hl, show k * 3 + 2 - k * 3 = 2 by omega]
  rfl
end Go.Proofs.Ytjiihfdbdbhhaaa
