/-
  Which relations are valid: both sides' words.
-/
import Derived.Test.YtlhfbhkfmkcnjaaDoorFhK
namespace Go.Proofs.YtlhfbhkfmkcnjaaDoor
open Go Go.RowKit Go.Ev

set_option maxRecDepth 100000 in
set_option maxHeartbeats 4000000 in
theorem ValidRel_p_any (k : ByteArray) (d : Kd) (h : KF k.toList d) (vs : List Int) (N n : Int) (A : Option Addr) (c : Nat) (w : World) (ha : Ints w A vs) :
    Calls Tryd.prog 79 #[.agg #[.string k, .slice A vs.length c, .int .i64 N], .int .i64 n] w fun e w' => e = .returned (.bool (relB d vs n)) ∧ Below w.heap.size w w' := by
  have CV := Lib.hid (countVars_any k d h)
  have hlv := ha.1
  have B2 := Lib.hid (show ∀ o1 o2, Below w.heap.size w ((w.alloc o1).alloc o2) from fun o1 o2 => ((Below.refl _ w).alloc (Nat.le_refl _) _).alloc (by simp) _)
  have AO := Lib.hid (fun (w1 : World) (h1 : Below w.heap.size w w1) (h2 : w1.cell? ⟨w.heap.size + 1, 0, none⟩ = some (.int .i64 n)) => anyOut_any vs n A c (w.heap.size + 1) w1 (ha.over h1) h2)
  clear ha h
  obtain ⟨R, hR⟩ : ∃ R, relB d vs n = R := ⟨_, rfl⟩
  rw [hR]
  have HR := Lib.hid hR
  clear hR
  unfold relB at HR
  unfold varsI at CV
  obtain ⟨V, hV⟩ : ∃ V, varsN d = V := ⟨_, rfl⟩
  simp only [hV] at CV HR
  clear hV
  have c0 : ∀ o, ((w.alloc o).alloc (.cells #[.int .i64 n] 3)).cell? ⟨w.heap.size + 1, 0, none⟩ = some (.int .i64 n) := fun o => by
    have := heap_alloc2_new w o (.cells #[.int .i64 n] 3)
    simp only [World.cell?, this]; rfl
  have C0 := Lib.hid c0
  clear c0
  cases V with
  | none =>
    obtain rfl : R = false := HR.out.symm
    simp only [Option.getD_none, Option.isSome_none] at CV
    go_enter Tryd.func79, Tryd.ntmps79
    go_wp2_with (go_at_call 109; refine (CV.out _).mono ?_; rintro e w1 ⟨rfl, rfl⟩)
    go_ret
    exact ⟨rfl, B2.out _ _⟩
  | some m =>
    simp only [Option.getD_some, Option.isSome_some] at CV HR
    by_cases hn : n ≤ 40
    · by_cases hm : (vs.length : Int) = (m : Int)
      · have hb1 : ((vs.length : Int) == (m : Int)) = true := by simpa using hm
        have hmm : vs.length = m := by omega
        have HR2 := Lib.hid (show (!vs.any (outB n)) = R by rw [← HR.out, decide_eq_true hmm, decide_eq_true hn]; simp)
        clear HR hm hmm
        generalize vs.any (outB n) = O at *
        generalize vs.length = lv at *
        go_enter Tryd.func79, Tryd.ntmps79
        go_wp2_with (first | (go_at_call 109; refine (CV.out _).mono ?_; rintro e w1 ⟨rfl, rfl⟩) | (go_at_call 110; refine (AO.out _ (B2.out _ _) (C0.out _)).mono ?_; rintro e w2 ⟨rfl, hb⟩; have HB := Lib.hid ((B2.out _ _).trans (hb.mono (by simp; omega))); clear hb))
        go_ret
        exact ⟨by rw [← HR2.out]; rfl, HB.out⟩
      · have hb1 : ((vs.length : Int) == (m : Int)) = false := by simpa using hm
        have hmm : ¬ vs.length = m := by omega
        obtain rfl : R = false := by rw [← HR.out, decide_eq_false hmm]; rfl
        clear HR hm hmm
        generalize vs.length = lv at *
        go_enter Tryd.func79, Tryd.ntmps79
        go_wp2_with (go_at_call 109; refine (CV.out _).mono ?_; rintro e w1 ⟨rfl, rfl⟩)
        go_ret
        exact ⟨rfl, B2.out _ _⟩
    · obtain rfl : R = false := by rw [← HR.out, decide_eq_false hn]; simp
      clear HR
      generalize vs.length = lv at *
      go_enter Tryd.func79, Tryd.ntmps79
      go_wp2_with (go_at_call 109; refine (CV.out _).mono ?_; rintro e w1 ⟨rfl, rfl⟩)
      go_ret
      exact ⟨rfl, B2.out _ _⟩
set_option maxRecDepth 100000 in
set_option maxHeartbeats 8000000 in
theorem ValidRel_r_any (k : ByteArray) (d : Kd) (h : KF k.toList d) (vs : List Int) (N n : Int) (A : Option Addr) (c : Nat) (w : World) (ha : Ints w A vs) :
    Calls Tryd.prog 87 #[.agg #[.string k, .slice A vs.length c, .int .i64 N], .int .i64 n] w fun e w' => e = .returned (.bool (relB d vs n)) ∧ Below w.heap.size w w' := by
  have hlv := ha.1
  have HA := Lib.hid ha.2.2
  clear ha
  obtain ⟨R, hR⟩ : ∃ R, relB d vs n = R := ⟨_, rfl⟩
  rw [hR]
  have HR := Lib.hid hR
  clear hR
  unfold relB at HR
  obtain ⟨h0, h1, h2, h3, h4, h5, h6, h7⟩ := h
  cases d
  all_goals
    (simp only [Kd.is] at h0 h1 h2 h3 h4 h5 h6 h7
     simp only [varsN] at HR
     go_enter Tryd.func87, Tryd.ntmps87
     go_wp2_with fail)
  all_goals first
    | (go_ret
       exact ⟨by rw [← HR.out]; rfl, (Below.refl _ _).alloc (Nat.le_refl _) _⟩)
    | (clear h0 h1 h2 h3 h4 h5 h6 h7
       have B1 := Lib.hid (show Below w.heap.size w (w.alloc (.cells #[.string k, .slice A vs.length c, .int .i64 N] 49)) from (Below.refl _ _).alloc (Nat.le_refl _) _)
       go_loopw [6] (fun i wr => ∃ q : Nat, q ≤ vs.length ∧ i = .int .i64 q ∧ (∀ j (hj : j < q) (hl : j < vs.length), outB n vs[j] = false) ∧ wr = w.alloc (.cells #[.string k, .slice A vs.length c, .int .i64 N] 49)) (fun i _ => vs.length - (intOf i).toNat)
       case atStart => exact ⟨0, Nat.zero_le _, rfl, fun j hj => absurd hj (Nat.not_lt_zero _), rfl⟩
       case round =>
         obtain ⟨q, hq, rfl, hall, rfl⟩ := hrel
         have HL := Lib.hid hall
         clear hall
         by_cases hlt : q < vs.length
         · obtain ⟨b1, o1, rfl, hb1', g1⟩ := HA.out (by omega)
           have x1 := (B1.out.cell (p := ⟨b1, o1 + q, none⟩) hb1').trans (g1 q hlt)
           have z1 : (q : Int) < (vs.length : Int) := by omega
           have z2 : (0 : Int) ≤ (q : Int) := by omega
           have HM := Lib.hid (List.getElem_mem hlt)
           generalize hx : vs[q] = x at *
           have HX := Lib.hid hx
           clear g1 HA hx
           by_cases hy : x < 0
           · have HZ := Lib.hid (show R = false by
               rw [← HR.out, show vs.any (outB n) = true from List.any_eq_true.2 ⟨x, HM.out, by unfold outB; rw [decide_eq_true hy]; rfl⟩]; simp)
             clear HR
             go_wp2_with fail
             go_ret
             exact ⟨by rw [HZ.out]; rfl, B1.out⟩
           · by_cases hz : n ≤ x
             · have HZ := Lib.hid (show R = false by
                 rw [← HR.out, show vs.any (outB n) = true from List.any_eq_true.2 ⟨x, HM.out, by unfold outB; rw [decide_eq_true hz, Bool.or_true]⟩]; simp)
               clear HR
               go_wp2_with fail
               go_ret
               exact ⟨by rw [HZ.out]; rfl, B1.out⟩
             · have HO := Lib.hid (show outB n x = false by unfold outB; rw [decide_eq_false hy, decide_eq_false hz]; rfl)
               go_wp2_with fail
               go_roundw
               case rel =>
                 refine ⟨q + 1, by omega, by go_num, fun j hj hl => ?_, by first | exact trivial | rfl⟩
                 rcases Nat.lt_or_ge j q with h | h
                 · exact HL.out j h hl
                 · obtain rfl : j = q := by omega
                   rw [HX.out]; exact HO.out
               case measure => simp [intOf]; omega
         · obtain rfl : q = vs.length := by omega
           have hno : vs.any (outB n) = false := by
             rw [List.any_eq_false]
             intro x hx
             obtain ⟨j, hj, rfl⟩ := List.getElem_of_mem hx
             rw [HL.out j hj hj]; simp
           have hr := HR.out
           rw [hno, Bool.not_false, Bool.and_true] at hr
           have HZ := Lib.hid hr
           clear hr hno HR HL HA
           go_wp2_with fail
           all_goals
             (go_ret
              refine ⟨?_, B1.out⟩
              rw [← HZ.out]
              simp <;> omega))
end Go.Proofs.YtlhfbhkfmkcnjaaDoor
