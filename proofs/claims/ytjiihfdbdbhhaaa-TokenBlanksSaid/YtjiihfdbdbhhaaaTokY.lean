/-
  The reading of a whole source, of the program.
-/
import Derived.Test.YtjiihfdbdbhhaaaTokX
import Derived.Deep.DeepCutAuto
namespace Go.Proofs.Ytjiihfdbdbhhaaa
open Go.RowKit T

theorem tkInfo : (Try.prog.info? 33).map (fun i => (i.zero, i.size, i.bytes)) = some (some (.agg #[.string ⟨#[]⟩, .string ⟨#[]⟩, .int .i64 0]), 3, 40) := by kernel_rfl

theorem own_below {w w' : World} {base : Nat} {e : TypeId} {size : Nat} {v : Value} {n : Nat} {xs : List Value} (h : w.ownsRow base e size v n xs) (hb : Below w.heap.size w w') : w'.ownsRow base e size v n xs :=
  h.kept (row := none) ⟨hb.os, hb.tape, hb.output, hb.size, fun k hk _ => hb.block k hk⟩ (Classical.em _)

def tkCells (ts : List Tk) : List Value := ts.flatMap fun t => [.string ⟨t.kind.toArray⟩, .string ⟨t.text.toArray⟩, .int .i64 (t.at_ : Int)]
theorem tkCells_snoc (ts : List Tk) (t : Tk) : tkCells (ts ++ [t]) = tkCells ts ++ [.string ⟨t.kind.toArray⟩, .string ⟨t.text.toArray⟩, .int .i64 (t.at_ : Int)] := by simp [tkCells]

/-- what a reading comes to: the tokens, the bad place, the error -/
def scanT (l : List UInt8) : List Tk × Int × Int := if 20000 < l.length then ([], -1, 4) else
  match scanN l (skipN l) with
  | (ts, none) => (ts, 0, 0)
  | (_, some b) => ([], (b : Int), 10)

/-- what the reader that is chosen hands back -/
def Reads1 (s : ByteArray) (k : Nat) (wr : World) (wx : World) (K T : ByteArray) (P E : Int) (B : Bool) (g : Nat) : Prop :=
  rdV (readT (s.data.toList.drop k)) k = .tuple #[.agg #[.string K, .string T, .int .i64 P], .int .i64 E, .bool B] ∧
    wx.heap[g]? = some (.cells #[.string K, .string T, .int .i64 P] 33 (0, 0)) ∧ wr.heap.size ≤ g ∧ Below wr.heap.size wr wx

theorem Reads1.of {s : ByteArray} {k : Nat} {wr w1 : World} {K T : ByteArray} {P E : Int} {B : Bool} (h : rdV (readT (s.data.toList.drop k)) k = .tuple #[.agg #[.string K, .string T, .int .i64 P], .int .i64 E, .bool B])
    (hb : Below wr.heap.size wr w1) : Reads1 s k wr (w1.alloc (.cells #[.string K, .string T, .int .i64 P] 33)) K T P E B w1.heap.size :=
  ⟨h, heap_alloc_new _ _, hb.size, hb.alloc hb.size _⟩

theorem other_of {s : ByteArray} {k : Nat} (hlt : k < s.size) :
    ((upB (s[k].toNat : Int) || loB (s[k].toNat : Int)) = true ∧ readT (s.data.toList.drop k) = wordT (s.data.toList.drop k)) ∨
    ((upB (s[k].toNat : Int) || loB (s[k].toNat : Int)) = false ∧ (diB (s[k].toNat : Int) = true ∨ (diB (s[k].toNat : Int) = false ∧ ((s[k].toNat : Int) == 126) = true ∧ ∃ h : k + 1 < s.size, diB (s[k + 1].toNat : Int) = true)) ∧
      ∃ k1, (k1 = k ∧ diU s[k] = true ∧ readT (s.data.toList.drop k) = numT (s.data.toList.drop k)) ∨ (k1 = k + 1 ∧ s[k] = 126 ∧ (∃ h : k + 1 < s.size, diU s[k + 1] = true) ∧ readT (s.data.toList.drop k) = minusT (s.data.toList.drop (k + 1)))) ∨
    (Other s k hlt ∧ ((((s[k].toNat : Int) == 39) = true ∧ readT (s.data.toList.drop k) = quoteT kAtom 60 s[k] (s.data.toList.drop (k + 1))) ∨
      (((s[k].toNat : Int) == 34) = true ∧ readT (s.data.toList.drop k) = quoteT kText 200 s[k] (s.data.toList.drop (k + 1))) ∨
      (((s[k].toNat : Int) == 38) = true ∧ readT (s.data.toList.drop k) = charT (s.data.toList.drop (k + 1))) ∨
      (((s[k].toNat : Int) == 39) = false ∧ ((s[k].toNat : Int) == 34) = false ∧ ((s[k].toNat : Int) == 38) = false ∧ readT (s.data.toList.drop k) = signT (s.data.toList.drop k)))) := by
  have hD := drop1 s k hlt
  rcases hl : (upB (s[k].toNat : Int) || loB (s[k].toNat : Int)) with _ | _
  · right
    rcases hd : diB (s[k].toNat : Int) with _ | _
    · have hd' : diU s[k] = false := hd
      by_cases hm : ((s[k].toNat : Int) == 126) = true ∧ ∃ h : k + 1 < s.size, diB (s[k + 1].toNat : Int) = true
      · left
        obtain ⟨h1, h2, h3⟩ := hm
        have e1 := beq_b _ 126 126 rfl _ h1
        refine ⟨rfl, .inr ⟨rfl, h1, h2, h3⟩, k + 1, .inr ⟨rfl, eq_of_beq e1, ⟨h2, h3⟩, ?_⟩⟩
        have hn : nextD (s.data.toList.drop (k + 1)) = true := by rw [drop1 s (k + 1) h2]; exact h3
        rw [hD, readT_cons, hl, hd', e1, hn]; rfl
      · right
        have hmm : (s[k] == 126 && nextD (s.data.toList.drop (k + 1))) = false := by
          rcases h1 : ((s[k].toNat : Int) == 126) with _ | _
          · rw [beq_b _ 126 126 rfl _ h1]; rfl
          · rcases Nat.lt_or_ge (k + 1) s.size with h2 | h2
            · rw [drop1 s (k + 1) h2]
              have : diB (s[k + 1].toNat : Int) = false := by
                rcases h3 : diB (s[k + 1].toNat : Int) with _ | _
                · rfl
                · exact absurd ⟨h1, h2, h3⟩ hm
              have h4 : diU s[k + 1] = false := this
              simp [nextD, h4]
            · rw [List.drop_of_length_le (l := s.data.toList) (i := k + 1) (by simp; omega)]; simp [nextD]
        have ho : Other s k hlt := by
          refine ⟨hl, hd, ?_⟩
          rcases h1 : ((s[k].toNat : Int) == 126) with _ | _
          · exact .inl rfl
          · refine .inr ⟨rfl, ?_⟩
            rcases Nat.lt_or_ge (k + 1) s.size with h2 | h2
            · right
              refine ⟨h2, ?_⟩
              rcases h3 : diB (s[k + 1].toNat : Int) with _ | _
              · rfl
              · exact absurd ⟨h1, h2, h3⟩ hm
            · left; omega
        refine ⟨ho, ?_⟩
        rcases q1 : ((s[k].toNat : Int) == 39) with _ | _
        · rcases q2 : ((s[k].toNat : Int) == 34) with _ | _
          · rcases q3 : ((s[k].toNat : Int) == 38) with _ | _
            · right; right; right
              refine ⟨rfl, rfl, rfl, ?_⟩
              rw [hD, readT_cons, hl, hd', hmm, beq_b _ 39 39 rfl _ q1, beq_b _ 34 34 rfl _ q2, beq_b _ 38 38 rfl _ q3]; rfl
            · right; right; left
              refine ⟨rfl, ?_⟩
              rw [hD, readT_cons, hl, hd', hmm, beq_b _ 39 39 rfl _ q1, beq_b _ 34 34 rfl _ q2, beq_b _ 38 38 rfl _ q3]; rfl
          · right; left
            refine ⟨rfl, ?_⟩
            have e := beq_b _ 34 34 rfl _ q2
            rw [hD, readT_cons, hl, hd', hmm, beq_b _ 39 39 rfl _ q1, e]
            rw [← eq_of_beq e]; rfl
        · left
          refine ⟨rfl, ?_⟩
          have e := beq_b _ 39 39 rfl _ q1
          rw [hD, readT_cons, hl, hd', hmm, e]
          rw [← eq_of_beq e]; rfl
    · left
      have hd' : diU s[k] = true := hd
      refine ⟨rfl, .inl rfl, k, .inl ⟨rfl, hd', ?_⟩⟩
      rw [hD, readT_cons, hl, hd']; rfl
  · left
    refine ⟨rfl, ?_⟩
    rw [hD, readT_cons, hl]; rfl
end Go.Proofs.Ytjiihfdbdbhhaaa
