/-
  Which features there are, by the program; what their order keeps.
-/
import Derived.Test.YtnfmfofialoioaaGreatDoorTpFa
namespace Go.Proofs.YtnfmfofialoioaaGreatDoor
open Go.RowKit T

set_option maxHeartbeats 2000000 in
theorem IsFeat_any (n : Int) (x : ByteArray) (w : World) (hs : x.size ≤ 1000) :
    Calls Tryz.prog 5 #[.agg #[.int .i64 n, .string x]] w fun e w' => e = .returned (.bool (featB n x)) ∧ Below w.heap.size w w' := by
  obtain ⟨V, hV⟩ : ∃ V : Bool, featB n x = V := ⟨_, rfl⟩
  rw [hV]
  have HV := Lib.hid hV
  clear hV
  have b1 : ∀ o, Below w.heap.size w (w.alloc o) := fun o => (Below.refl _ _).alloc (Nat.le_refl _) _
  have VC := fun wx => Valid_any ⟨#[97, 116, 111, 109]⟩ x 0 wx hs
  have e : validB (⟨#[97, 116, 111, 109]⟩ : ByteArray).toList x = atomB x := by unfold atomB; rw [Lib.toList_data]
  rw [e] at VC
  clear e
  have VC := Lib.hid VC
  by_cases h0 : n = 0
  · subst h0
    have e : atomB x = V := by rw [← HV.out]; simp [featB]
    rw [e] at VC
    clear e
    go_enter Tryz.func5, Tryz.ntmps5
    go_wp2_with fail
    refine (VC.out _).mono ?_
    rintro e w2 ⟨rfl, hb⟩
    have hb2 := (b1 _).trans (hb.mono (by simp))
    go_wp2_with fail
    go_ret
    exact ⟨rfl, hb2⟩
  · have h0' : (n == 0) = false := by simpa using h0
    by_cases h1 : 0 < n
    · by_cases h2 : n ≤ 1000
      · rcases h3 : (x.toList == []) with _ | _
        · have e : V = false := by rw [← HV.out]; have : ¬ x.toList = [] := by simpa using h3
                                   simp [featB, h0, this]
          go_enter Tryz.func5, Tryz.ntmps5
          go_wp2_with fail
          go_ret
          exact ⟨by first | rfl | (rw [e]; rfl), b1 _⟩
        · have e : V = true := by rw [← HV.out]; have : x.toList = [] := by simpa using h3
                                  have h4 : 1 ≤ n := by omega
                                  simp [featB, h4, h2, this]
          go_enter Tryz.func5, Tryz.ntmps5
          go_wp2_with fail
          go_ret
          exact ⟨by first | rfl | (rw [e]; rfl), b1 _⟩
      · have e : V = false := by rw [← HV.out]; simp [featB, h0, h2]
        go_enter Tryz.func5, Tryz.ntmps5
        go_wp2_with fail
        go_ret
        exact ⟨by first | rfl | (rw [e]; rfl), b1 _⟩
    · have h4 : ¬ 1 ≤ n := by omega
      have e : V = false := by rw [← HV.out]; simp [featB, h0, h4]
      go_enter Tryz.func5, Tryz.ntmps5
      go_wp2_with fail
      go_ret
      exact ⟨by first | rfl | (rw [e]; rfl), b1 _⟩
end Go.Proofs.YtnfmfofialoioaaGreatDoor
