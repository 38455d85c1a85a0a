/-
  Features: the document's order of them and what is one; the program's.
-/
import Derived.Test.YtnfmfofialoioaaGreatDoorTokI
import Derived.OwnWalk
namespace Go.Proofs.YtnfmfofialoioaaGreatDoor
open Go.RowKit T

def bltB (a b : ByteArray) : Bool := Op.bytesLess a.toList b.toList
def lessB (an : Int) (ax : ByteArray) (bn : Int) (bx : ByteArray) : Bool :=
  if 0 < an then (if 0 < bn then decide (an < bn) else true) else (if 0 < bn then false else bltB ax bx)
def atomB (s : ByteArray) : Bool := validB [97, 116, 111, 109] s
def featB (n : Int) (x : ByteArray) : Bool := (n == 0 && atomB x) || (decide (1 ≤ n) && decide (n ≤ 1000) && decide (x.toList = []))

set_option maxHeartbeats 2000000 in
theorem Less_r_any (an bn : Int) (ax bx : ByteArray) (w : World) :
    Calls Tryz.prog 8 #[.agg #[.int .i64 an, .string ax], .agg #[.int .i64 bn, .string bx]] w fun e w' => e = .returned (.bool (lessB an ax bn bx)) ∧ Below w.heap.size w w' := by
  have bb : Below w.heap.size w ((w.alloc (.cells #[.int .i64 an, .string ax] 23)).alloc (.cells #[.int .i64 bn, .string bx] 23)) := ((Below.refl _ _).alloc (Nat.le_refl _) _).alloc (by simp) _
  unfold lessB bltB
  by_cases h1 : 0 < an
  · rw [if_pos h1]
    by_cases h2 : 0 < bn
    · rw [if_pos h2]
      go_enter Tryz.func8, Tryz.ntmps8
      go_wp2_with fail
      go_ret
      exact ⟨rfl, bb⟩
    · rw [if_neg h2]
      go_enter Tryz.func8, Tryz.ntmps8
      go_wp2_with fail
      go_ret
      exact ⟨rfl, bb⟩
  · rw [if_neg h1]
    by_cases h2 : 0 < bn
    · rw [if_pos h2]
      go_enter Tryz.func8, Tryz.ntmps8
      go_wp2_with fail
      go_ret
      exact ⟨by first | rfl | simp [h1], bb⟩
    · rw [if_neg h2]
      go_enter Tryz.func8, Tryz.ntmps8
      go_wp2_with fail
      go_ret
      exact ⟨by first | rfl | simp [h1, h2], bb⟩

theorem IsAtom_r_any (s : ByteArray) (w : World) (hs : s.size ≤ 1000) :
    Calls Tryz.prog 12 #[.string s] w fun e w' => e = .returned (.bool (atomB s)) ∧ Below w.heap.size w w' := by
  have VC := Lib.hid (fun wx => Valid_r_any ⟨#[97, 116, 111, 109]⟩ s 0 wx hs)
  have e : validB (⟨#[97, 116, 111, 109]⟩ : ByteArray).toList s = atomB s := by unfold atomB; rw [Lib.toList_data]
  rw [e] at VC
  clear e
  go_enter Tryz.func12, Tryz.ntmps12
  go_wp2_with fail
  refine (VC.out _).mono ?_
  rintro e w' ⟨rfl, hb⟩
  go_wp2_with fail
  go_ret
  exact ⟨rfl, hb⟩

set_option maxHeartbeats 2000000 in
theorem IsFeat_r_any (n : Int) (x : ByteArray) (w : World) (hs : x.size ≤ 1000) :
    Calls Tryz.prog 6 #[.agg #[.int .i64 n, .string x]] w fun e w' => e = .returned (.bool (featB n x)) ∧ Below w.heap.size w w' := by
  obtain ⟨V, hV⟩ : ∃ V : Bool, featB n x = V := ⟨_, rfl⟩
  rw [hV]
  have HV := Lib.hid hV
  clear hV
  have b1 : Below w.heap.size w (w.alloc (.cells #[.int .i64 n, .string x] 23)) := (Below.refl _ _).alloc (Nat.le_refl _) _
  have AC := fun wx => IsAtom_r_any x wx hs
  generalize ha : atomB x = at1 at AC
  have HT := Lib.hid ha
  have AC := Lib.hid AC
  clear ha
  by_cases h0 : n = 0
  · subst h0
    have e : V = at1 := by rw [← HV.out, ← HT.out]; simp [featB]
    go_enter Tryz.func6, Tryz.ntmps6
    go_wp2_with fail
    refine (AC.out _).mono ?_
    rintro e w2 ⟨rfl, hb⟩
    have hb2 := b1.trans (hb.mono (by simp))
    have c0 : w2.cell? ⟨w.heap.size, 0, none⟩ = some (.int .i64 0) := (hb.cell (p := ⟨w.heap.size, 0, none⟩) (by simp)).trans (by simp [go_sem])
    rcases at1 with _ | _
    · go_wp2_with fail
      go_ret
      exact ⟨by first | rfl | (rw [e]; rfl), hb2⟩
    · go_wp2_with fail
      go_ret
      exact ⟨by first | rfl | (rw [e]; rfl), hb2⟩
  · have h0' : (n == 0) = false := by simpa using h0
    by_cases h1 : 1 ≤ n
    · by_cases h2 : n ≤ 1000
      · by_cases h3 : x.toList = []
        · have e : V = true := by rw [← HV.out]; simp [featB, h1, h2, h3]
          go_enter Tryz.func6, Tryz.ntmps6
          go_wp2_with fail
          go_ret
          exact ⟨by first | rfl | (rw [e]; rfl), b1⟩
        · have e : V = false := by rw [← HV.out]; simp [featB, h0, h1, h2, h3]
          have h3' := beq_eq_false_iff_ne.2 h3
          go_enter Tryz.func6, Tryz.ntmps6
          go_wp2_with fail
          all_goals go_ret
          all_goals exact ⟨by first | rfl | (rw [e]; rfl), b1⟩
      · have e : V = false := by rw [← HV.out]; simp [featB, h0, h1, h2]
        go_enter Tryz.func6, Tryz.ntmps6
        go_wp2_with fail
        go_ret
        exact ⟨by first | rfl | (rw [e]; rfl), b1⟩
    · have e : V = false := by rw [← HV.out]; simp [featB, h0, h1]
      go_enter Tryz.func6, Tryz.ntmps6
      go_wp2_with fail
      go_ret
      exact ⟨by first | rfl | (rw [e]; rfl), b1⟩

set_option maxHeartbeats 2000000 in
theorem Less_any (an bn : Int) (ax bx : ByteArray) (w : World) (ha : 0 ≤ an) (hb : 0 ≤ bn) :
    Calls Tryz.prog 7 #[.agg #[.int .i64 an, .string ax], .agg #[.int .i64 bn, .string bx]] w fun e w' => ∃ V, e = .returned (.bool V) ∧ (V = if an = bn then bltB ax bx else lessB an ax bn bx) ∧ Below w.heap.size w w' := by
  have bb : Below w.heap.size w ((w.alloc (.cells #[.int .i64 an, .string ax] 23)).alloc (.cells #[.int .i64 bn, .string bx] 23)) := ((Below.refl _ _).alloc (Nat.le_refl _) _).alloc (by simp) _
  unfold bltB lessB
  by_cases h0 : an = bn
  · subst h0
    rw [if_pos rfl]
    go_enter Tryz.func7, Tryz.ntmps7
    go_wp2_with fail
    go_ret
    exact ⟨_, rfl, rfl, bb⟩
  · rw [if_neg h0]
    by_cases h1 : an = 0
    · have h2 : ¬ bn = 0 := by omega
      have h3 : ¬ 0 < an := by omega
      have h4 : 0 < bn := by omega
      rw [if_neg h3, if_pos h4]
      have b0 : (an == bn) = false := by simpa using h0
      have b1 : (an == 0) = true := by simpa using h1
      have b2 : (bn == 0) = false := by simpa using h2
      clear h0 h1 h2 h3 h4
      go_enter Tryz.func7, Tryz.ntmps7
      go_wp2_with fail
      go_ret
      first | exact ⟨_, rfl, rfl, bb⟩ | exact ⟨rfl, bb⟩ | exact ⟨_, rfl, by simp, bb⟩
    · have h3 : 0 < an := by omega
      rw [if_pos h3]
      by_cases h2 : bn = 0
      · have h4 : ¬ 0 < bn := by omega
        rw [if_neg h4]
        subst h2
        go_enter Tryz.func7, Tryz.ntmps7
        go_wp2_with fail
        go_ret
        first | exact ⟨rfl, bb⟩ | exact ⟨_, rfl, by simp, bb⟩
      · have h4 : 0 < bn := by omega
        rw [if_pos h4]
        have b0 : (an == bn) = false := by simpa using h0
        have b1 : (an == 0) = false := by simpa using h1
        have b2 : (bn == 0) = false := by simpa using h2
        go_enter Tryz.func7, Tryz.ntmps7
        go_wp2_with fail
        go_ret
        exact ⟨_, rfl, rfl, bb⟩
end Go.Proofs.YtnfmfofialoioaaGreatDoor
