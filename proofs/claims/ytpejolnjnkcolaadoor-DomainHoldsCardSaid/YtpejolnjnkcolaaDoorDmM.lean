/-
  The law of what holds returns true, if the program's answer is the document's, and the layer's example runs to true.
-/
import Derived.Test.YtpejolnjnkcolaaDoorDmL
import Derived.Test.YtpejolnjnkcolaaDoorAwTz
namespace Go.Proofs.YtpejolnjnkcolaaDoor
open Go Go.Ev Go.RowKit

/-- a slice of integers of any length -/
def IntsU (w : World) (A : Option Addr) (xs : List Int) : Prop := (∀ x ∈ xs, -9223372036854775808 ≤ x ∧ x ≤ 9223372036854775807) ∧
  (0 < xs.length → ∃ b off, A = some ⟨b, off, none⟩ ∧ b < w.heap.size ∧ ∀ i (h : i < xs.length), w.cell? ⟨b, off + i, none⟩ = some (.int .i64 xs[i]))
theorem IntsU.small {w : World} {A : Option Addr} {xs : List Int} (h : IntsU w A xs) (hl : xs.length ≤ 1000000) : Ints w A xs := ⟨hl, h.1, h.2⟩
def AwakeOk : Prop := ∀ w, TabIn w → Calls Tryd.prog 5 #[] w fun e w' => e = .returned (.bool true) ∧ Below w.heap.size w w'
def HoldsOk : Prop := ∀ (x : ByteArray) (vs cs us : List Int) (n : Int) (A B D : Option Addr) (c1 c2 c3 : Nat) (w : World), Ints w A vs → Ints w B cs → Ints w D us → cs.length ≤ c2 → (-9223372036854775808 ≤ n ∧ n ≤ 9223372036854775807) → x.size ≤ 100 → vs.length ≤ 50 → cs.length ≤ 50 → us.length ≤ 100 →
    Calls Tryd.prog 25 #[.agg #[.string x, .slice A vs.length c1, .slice B cs.length c2, .int .i64 n], .slice D us.length c3] w fun e w' => e = .returned (.bool (hoB x.toList vs cs us n)) ∧ Below w.heap.size w w'
def dEnv (x : ByteArray) (vs cs us : List Int) (n : Int) (A B D : Option Addr) (c1 c2 c3 : Nat) : List Value :=
  [.string x, .slice A vs.length c1, .slice B cs.length c2, .int .i64 n, .slice D us.length c3, .int .i64 vs.length, .int .i64 cs.length, .int .i64 x.size, .int .i64 us.length]
theorem dEnv_one (x : ByteArray) (vs cs us : List Int) (n : Int) (A B D : Option Addr) (c1 c2 c3 : Nat) : ∀ v ∈ dEnv x vs cs us n A B D c1 c2 c3, v.oneCell' = true ∧ v.cells = #[v] := by
  intro v hv
  simp only [dEnv, List.mem_cons, List.not_mem_nil, or_false] at hv
  rcases hv with rfl | rfl | rfl | rfl | rfl | rfl | rfl | rfl | rfl <;> exact ⟨rfl, rfl⟩
theorem agg4 {w0 : W0} {φ : Pm} (sy : Sy w0 φ) {i j k l : Nat} {v : Value} (h : VR φ (.agg ⟨[.chan (some i), .chan (some j), .chan (some k), .chan (some l)]⟩) v) : v = .agg #[w0.env i, w0.env j, w0.env k, w0.env l] := by
  cases h with
  | leaf hl => simp [leafB] at hl
  | @agg _ xs' hs hh =>
    obtain ⟨l'⟩ := xs'
    obtain ⟨p, q, r, s, rfl⟩ : ∃ p q r s, l' = [p, q, r, s] := by
      rcases l' with _ | ⟨p, _ | ⟨q, _ | ⟨r, _ | ⟨s, _ | ⟨t, l'⟩⟩⟩⟩⟩ <;> simp at hs
      exact ⟨p, q, r, s, rfl⟩
    rw [one_sym sy (hh 0 _ p rfl rfl), one_sym sy (hh 1 _ q rfl rfl), one_sym sy (hh 2 _ r rfl rfl), one_sym sy (hh 3 _ s rfl rfl)]
theorem dOps_ok {w : World} (x : ByteArray) (vs cs us : List Int) (n : Int) (A B D : Option Addr) (c1 c2 c3 : Nat) :
    OpOk Tryd.prog (iW w (dEnv x vs cs us n A B D c1 c2 c3) (dEnv_one x vs cs us n A B D c1 c2 c3)) (dOps (decide ((vs.length : Int) > 50)) (decide ((cs.length : Int) > 50)) (decide ((x.size : Int) > 100)) (decide ((us.length : Int) > 100))) := by
  refine ⟨fun b t v u r h φ sy v' u' hv hu xo yo w1 => ?_, fun t v r h φ sy v' hv ty w1 => ?_, fun o v r h => (nomatch h)⟩
  · simp only [dOps] at h
    split at h
    all_goals first
      | (cases h; done)
      | (cases h
         rw [one_sym sy hv, plain_eq 0 _ _ rfl hu]
         exact ⟨_, op_gtr, .leaf rfl⟩)
  · simp only [dOps] at h
    split at h
    · rename_i ht
      obtain rfl := Nat.eq_of_beq_eq_true ht
      split at h
      · cases h
        rw [one_sym sy hv]
        exact ⟨_, op_len_string (s := x) Tryd.underlying9, VR.sym sy (r := 7) (show 7 < 9 by decide)⟩
      · cases h
    · split at h
      · rename_i ht
        obtain rfl := Nat.eq_of_beq_eq_true ht
        split at h
        · cases h
          rw [one_sym sy hv]
          exact ⟨_, op_len_slice (A := A) (l := vs.length) (c := c1) Tryd.underlying23, VR.sym sy (r := 5) (show 5 < 9 by decide)⟩
        · cases h
          rw [one_sym sy hv]
          exact ⟨_, op_len_slice (A := B) (l := cs.length) (c := c2) Tryd.underlying23, VR.sym sy (r := 6) (show 6 < 9 by decide)⟩
        · cases h
          rw [one_sym sy hv]
          exact ⟨_, op_len_slice (A := D) (l := us.length) (c := c3) Tryd.underlying23, VR.sym sy (r := 8) (show 8 < 9 by decide)⟩
        · cases h
      · cases h
theorem dOrc_ok (hA : AwakeOk) (hH : HoldsOk) {w : World} (hT : TabIn w) (x : ByteArray) (vs cs us : List Int) (n : Int) (A B D : Option Addr) (c1 c2 c3 : Nat) (ha : IntsU w A vs) (hb : IntsU w B cs) (hd : IntsU w D us) (hcc : cs.length ≤ c2) (hn : -9223372036854775808 ≤ n ∧ n ≤ 9223372036854775807)
    (small : Bool) (hs : small = true → x.size ≤ 100 ∧ vs.length ≤ 50 ∧ cs.length ≤ 50 ∧ us.length ≤ 100) :
    OrcOk Tryd.prog (iW w (dEnv x vs cs us n A B D c1 c2 c3) (dEnv_one x vs cs us n A B D c1 c2 c3)) (dOrc small (hoB x.toList vs cs us n)) := by
  intro k args st v h φ args' w1 H hl
  have sy := H.sym
  unfold dOrc at h
  split at h
  · split at h
    · rename_i hk
      obtain rfl := Nat.eq_of_beq_eq_true hk
      cases h
      obtain rfl : args' = [] := List.eq_nil_of_length_eq_zero hl.1.symm
      refine ⟨fun w => enters Tryd.func5 (by decide +kernel) (by kernel_rfl) _ w, Calls.mono (hA w1 (hT.below H.below hT.lt)) ?_⟩
      rintro e w' ⟨rfl, hb⟩
      exact ⟨⟨_, rfl, .leaf rfl⟩, hb⟩
    · cases h
  · split at h
    · rename_i hk
      rw [Bool.and_eq_true, Bool.or_eq_true] at hk
      obtain ⟨hsm, hk⟩ := hk
      obtain ⟨s1, s2, s3, s4⟩ := hs hsm
      cases h
      obtain ⟨y, z, rfl, hy, hz⟩ := lr2 hl
      have ia := (ha.small (by omega)).over (w' := w1) H.below
      have ib := (hb.small (by omega)).over (w' := w1) H.below
      have id' := (hd.small (by omega)).over (w' := w1) H.below
      rw [agg4 sy hy, one_sym sy hz]
      rcases hk with hk | hk
      · obtain rfl := Nat.eq_of_beq_eq_true hk
        refine ⟨fun w => enters Tryd.func25 (by decide +kernel) (by kernel_rfl) _ w, Calls.mono (hH x vs cs us n A B D c1 c2 c3 w1 ia ib id' hcc hn s1 s2 s3 s4) ?_⟩
        rintro e w' ⟨rfl, hb⟩
        exact ⟨⟨_, rfl, .leaf rfl⟩, hb⟩
      · obtain rfl := Nat.eq_of_beq_eq_true hk
        refine ⟨fun w => enters Tryd.func26 (by decide +kernel) (by kernel_rfl) _ w, Calls.mono (Holds_r_any x vs cs us n A B D c1 c2 c3 w1 ia ib id' hcc hn) ?_⟩
        rintro e w' ⟨rfl, hb⟩
        exact ⟨⟨_, rfl, .leaf rfl⟩, hb⟩
    · cases h
  · cases h
theorem DomainHolds_any (hA : AwakeOk) (hH : HoldsOk) (w : World) (hT : TabIn w) (x : ByteArray) (vs cs us : List Int) (n : Int) (A B D : Option Addr) (c1 c2 c3 : Nat) (ha : IntsU w A vs) (hb : IntsU w B cs) (hd : IntsU w D us) (hcc : cs.length ≤ c2) (hn : -9223372036854775808 ≤ n ∧ n ≤ 9223372036854775807) :
    Calls Tryd.prog 4 #[.agg #[.string x, .slice A vs.length c1, .slice B cs.length c2, .int .i64 n], .slice D us.length c3] w fun e w' => e = .returned (.bool true) ∧ Below w.heap.size w w' := by
  have m : ∀ b : Bool, b ∈ dBools := by decide
  have g := List.all_eq_true.1 (List.all_eq_true.1 (List.all_eq_true.1 (List.all_eq_true.1 (List.all_eq_true.1 d_all (decide ((vs.length : Int) > 50)) (m _)) (decide ((cs.length : Int) > 50)) (m _)) (decide ((x.size : Int) > 100)) (m _)) (decide ((us.length : Int) > 100)) (m _)) (hoB x.toList vs cs us n) (m _)
  have sy := symφ_sy (iW w (dEnv x vs cs us n A B D c1 c2 c3) (dEnv_one x vs cs us n A B D c1 c2 c3))
  have s : ∀ r, r < 9 → VR (symφ (iW w (dEnv x vs cs us n A B D c1 c2 c3) (dEnv_one x vs cs us n A B D c1 c2 c3))) (.chan (some r)) ((dEnv x vs cs us n A B D c1 c2 c3).getD r (.int .i64 0)) := fun r hr => VR.sym sy hr
  refine run_rel (w0 := iW w (dEnv x vs cs us n A B D c1 c2 c3) (dEnv_one x vs cs us n A B D c1 c2 c3)) mixed dTab_ok xtab_nil (Nat.le_refl _) (dOps_ok x vs cs us n A B D c1 c2 c3) (dOrc_ok hA hH hT x vs cs us n A B D c1 c2 c3 ha hb hd hcc hn _ ?_) (args := dArgs) ?_ rfl g
  · intro e
    simp at e
    omega
  · exact LR.cons (VR.agg_iff.2 (LR.cons (s 0 (by decide)) (LR.cons (s 1 (by decide)) (LR.cons (s 2 (by decide)) (LR.cons (s 3 (by decide)) LR.nil))))) (LR.cons (s 4 (by decide)) LR.nil)
end Go.Proofs.YtpejolnjnkcolaaDoor
