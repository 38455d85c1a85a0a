/-
  Whether a propagator holds: the document's own answer.
-/
import Derived.Test.YtpejolnjnkcolaaDoorDmF
import Derived.Test.YtpejolnjnkcolaaDoorDmEAll
namespace Go.Proofs.YtpejolnjnkcolaaDoor
open Go Go.RowKit

set_option maxRecDepth 100000 in
set_option maxHeartbeats 4000000 in
theorem ho_none (x : ByteArray) (A B D : Option Addr) (l1 l2 l3 c1 c2 c3 : Nat) (n : Int) (w : World) (k_sum : (x.toList == [115, 117, 109]) = false) (k_most : (x.toList == [109, 111, 115, 116]) = false) (k_distinct : (x.toList == [100, 105, 115, 116, 105, 110, 99, 116]) = false) (k_unlike : (x.toList == [117, 110, 108, 105, 107, 101]) = false) (k_product : (x.toList == [112, 114, 111, 100, 117, 99, 116]) = false) (k_max : (x.toList == [109, 97, 120]) = false) (k_reify : (x.toList == [114, 101, 105, 102, 121]) = false) (k_element : (x.toList == [101, 108, 101, 109, 101, 110, 116]) = false) (k_apart : (x.toList == [97, 112, 97, 114, 116]) = false) :
    Calls Tryd.prog 26 #[.agg #[.string x, .slice A l1 c1, .slice B l2 c2, .int .i64 n], .slice D l3 c3] w fun e w' => e = .returned (.bool false) ∧ Below w.heap.size w w' := by
  have VP := Lib.hid (fun w => vp_none x A B l1 l2 c1 c2 n l3 w k_sum k_most k_distinct k_unlike k_product k_max k_reify k_element k_apart)
  have B0 := Lib.hid (show ∀ o, Below w.heap.size w (w.alloc o) from fun o => (Below.refl _ _).alloc (Nat.le_refl _) _)
  clear k_sum k_most k_distinct k_unlike k_product k_max k_reify k_element k_apart
  go_enter Tryd.func26, Tryd.ntmps26
  go_wp2_with fail
  refine (VP.out _).mono ?_
  rintro e w1 ⟨rfl, hb⟩
  have HB1 := Lib.hid ((B0.out (.cells #[.string x, .slice A l1 c1, .slice B l2 c2, .int .i64 n] 37)).trans (hb.mono (by simp)))
  clear hb
  go_wp2_with fail
  go_ret
  exact ⟨rfl, HB1.out⟩

/-- what a propagator of a kind asks -/
def hoB (x : List UInt8) (vs cs us : List Int) (n : Int) : Bool :=
  if x = [115, 117, 109] then vpCore vs.length vs.length vs.length true false true vs cs n us.length && decide (dot cs (pick vs us) = n) else
  if x = [109, 111, 115, 116] then vpCore vs.length vs.length vs.length true false true vs cs n us.length && decide (dot cs (pick vs us) ≤ n) else
  if x = [100, 105, 115, 116, 105, 110, 99, 116] then vpCore vs.length 0 0 false false false vs cs n us.length && decide (pick vs us).Nodup else
  if x = [117, 110, 108, 105, 107, 101] then vpCore 2 0 0 false false true vs cs n us.length && decide (nthI (pick vs us) 1 - nthI (pick vs us) 0 ≠ n) else
  if x = [112, 114, 111, 100, 117, 99, 116] then vpCore 3 0 0 false false false vs cs n us.length && decide (nthI (pick vs us) 0 * nthI (pick vs us) 1 = nthI (pick vs us) 2) else
  if x = [109, 97, 120] then vpCore 3 0 0 false false false vs cs n us.length && decide (nthI (pick vs us) 2 = max (nthI (pick vs us) 0) (nthI (pick vs us) 1)) else
  if x = [114, 101, 105, 102, 121] then vpCore 3 0 0 false false true vs cs n us.length && (decide (nthI (pick vs us) 0 = 1) && decide (nthI (pick vs us) 1 - nthI (pick vs us) 2 ≤ n) || decide (nthI (pick vs us) 0 = 0) && !decide (nthI (pick vs us) 1 - nthI (pick vs us) 2 ≤ n)) else
  if x = [101, 108, 101, 109, 101, 110, 116] then vpCore 2 1 40 false false false vs cs n us.length && (decide (1 ≤ nthI (pick vs us) 0) && decide (nthI (pick vs us) 0 ≤ cs.length) && decide (nthI cs (nthI (pick vs us) 0 - 1).toNat = nthI (pick vs us) 1)) else
  if x = [97, 112, 97, 114, 116] then vpCore 2 2 2 false true false vs cs n us.length && (decide (nthI (pick vs us) 0 - nthI (pick vs us) 1 ≤ -nthI cs 0) || decide (nthI (pick vs us) 1 - nthI (pick vs us) 0 ≤ -nthI cs 1)) else
  false

theorem Holds_r_any (x : ByteArray) (vs cs us : List Int) (n : Int) (A B D : Option Addr) (c1 c2 c3 : Nat) (w : World) (ha : Ints w A vs) (hb : Ints w B cs) (hd : Ints w D us) (hcc : cs.length ≤ c2) (hn : -9223372036854775808 ≤ n ∧ n ≤ 9223372036854775807) :
    Calls Tryd.prog 26 #[.agg #[.string x, .slice A vs.length c1, .slice B cs.length c2, .int .i64 n], .slice D us.length c3] w fun e w' => e = .returned (.bool (hoB x.toList vs cs us n)) ∧ Below w.heap.size w w' := by
  by_cases h0 : x.toList = [115, 117, 109]
  · have e : hoB x.toList vs cs us n = (vpCore vs.length vs.length vs.length true false true vs cs n us.length && decide (dot cs (pick vs us) = n)) := by
      unfold hoB
      rw [h0]
      rfl
    rw [e]
    exact ho_sum x vs cs us n A B D c1 c2 c3 w h0 ha hb hd hcc hn
  by_cases h1 : x.toList = [109, 111, 115, 116]
  · have e : hoB x.toList vs cs us n = (vpCore vs.length vs.length vs.length true false true vs cs n us.length && decide (dot cs (pick vs us) ≤ n)) := by
      unfold hoB
      rw [h1]
      rfl
    rw [e]
    exact ho_most x vs cs us n A B D c1 c2 c3 w h1 ha hb hd hcc hn
  by_cases h2 : x.toList = [100, 105, 115, 116, 105, 110, 99, 116]
  · have e : hoB x.toList vs cs us n = (vpCore vs.length 0 0 false false false vs cs n us.length && decide (pick vs us).Nodup) := by
      unfold hoB
      rw [h2]
      rfl
    rw [e]
    exact ho_distinct x vs cs us n A B D c1 c2 c3 w h2 ha hb hd hcc hn
  by_cases h3 : x.toList = [117, 110, 108, 105, 107, 101]
  · have e : hoB x.toList vs cs us n = (vpCore 2 0 0 false false true vs cs n us.length && decide (nthI (pick vs us) 1 - nthI (pick vs us) 0 ≠ n)) := by
      unfold hoB
      rw [h3]
      rfl
    rw [e]
    exact ho_unlike x vs cs us n A B D c1 c2 c3 w h3 ha hb hd hcc hn
  by_cases h4 : x.toList = [112, 114, 111, 100, 117, 99, 116]
  · have e : hoB x.toList vs cs us n = (vpCore 3 0 0 false false false vs cs n us.length && decide (nthI (pick vs us) 0 * nthI (pick vs us) 1 = nthI (pick vs us) 2)) := by
      unfold hoB
      rw [h4]
      rfl
    rw [e]
    exact ho_product x vs cs us n A B D c1 c2 c3 w h4 ha hb hd hcc hn
  by_cases h5 : x.toList = [109, 97, 120]
  · have e : hoB x.toList vs cs us n = (vpCore 3 0 0 false false false vs cs n us.length && decide (nthI (pick vs us) 2 = max (nthI (pick vs us) 0) (nthI (pick vs us) 1))) := by
      unfold hoB
      rw [h5]
      rfl
    rw [e]
    exact ho_max x vs cs us n A B D c1 c2 c3 w h5 ha hb hd hcc hn
  by_cases h6 : x.toList = [114, 101, 105, 102, 121]
  · have e : hoB x.toList vs cs us n = (vpCore 3 0 0 false false true vs cs n us.length && (decide (nthI (pick vs us) 0 = 1) && decide (nthI (pick vs us) 1 - nthI (pick vs us) 2 ≤ n) || decide (nthI (pick vs us) 0 = 0) && !decide (nthI (pick vs us) 1 - nthI (pick vs us) 2 ≤ n))) := by
      unfold hoB
      rw [h6]
      rfl
    rw [e]
    exact ho_reify x vs cs us n A B D c1 c2 c3 w h6 ha hb hd hcc hn
  by_cases h7 : x.toList = [101, 108, 101, 109, 101, 110, 116]
  · have e : hoB x.toList vs cs us n = (vpCore 2 1 40 false false false vs cs n us.length && (decide (1 ≤ nthI (pick vs us) 0) && decide (nthI (pick vs us) 0 ≤ cs.length) && decide (nthI cs (nthI (pick vs us) 0 - 1).toNat = nthI (pick vs us) 1))) := by
      unfold hoB
      rw [h7]
      rfl
    rw [e]
    exact ho_element x vs cs us n A B D c1 c2 c3 w h7 ha hb hd hcc hn
  by_cases h8 : x.toList = [97, 112, 97, 114, 116]
  · have e : hoB x.toList vs cs us n = (vpCore 2 2 2 false true false vs cs n us.length && (decide (nthI (pick vs us) 0 - nthI (pick vs us) 1 ≤ -nthI cs 0) || decide (nthI (pick vs us) 1 - nthI (pick vs us) 0 ≤ -nthI cs 1))) := by
      unfold hoB
      rw [h8]
      rfl
    rw [e]
    exact ho_apart x vs cs us n A B D c1 c2 c3 w h8 ha hb hd hcc hn
  have e : hoB x.toList vs cs us n = false := by
    unfold hoB
    rw [if_neg h0, if_neg h1, if_neg h2, if_neg h3, if_neg h4, if_neg h5, if_neg h6, if_neg h7, if_neg h8]
  rw [e]
  exact ho_none x A B D vs.length cs.length us.length c1 c2 c3 n w (by simpa using h0) (by simpa using h1) (by simpa using h2) (by simpa using h3) (by simpa using h4) (by simpa using h5) (by simpa using h6) (by simpa using h7) (by simpa using h8)
end Go.Proofs.YtpejolnjnkcolaaDoor
