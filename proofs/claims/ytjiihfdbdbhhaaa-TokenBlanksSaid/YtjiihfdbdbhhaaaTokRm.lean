/-
  Gaps: the document's own answer.
-/
import Derived.Test.YtjiihfdbdbhhaaaTokL2
import Derived.Test.YtjiihfdbdbhhaaaTokW
import Derived.Handy
namespace Go.Proofs.Ytjiihfdbdbhhaaa
open Go.RowKit T

def b2 (s : ByteArray) (k : Nat) (x y : UInt8) : Bool := decide (k + 2 ≤ s.size) && ((s.extract k (k + 2)).toList == [x, y])
theorem b2_eq {s : ByteArray} {k : Nat} (h : k + 1 < s.size) (x y : UInt8) : b2 s k x y = (s[k] == x && s[k + 1] == y) := by
  unfold b2
  rw [decide_eq_true (by omega), ext2 s k h, beq2]; rfl
theorem b2_short {s : ByteArray} {k : Nat} (h : ¬ k + 1 < s.size) (x y : UInt8) : b2 s k x y = false := by
  unfold b2
  rw [decide_eq_false (by omega)]; rfl

set_option maxHeartbeats 1000000 in
theorem begins_any (s : ByteArray) (k : Nat) (i : Int) (x y : UInt8) (w : World) (hs : s.size ≤ 100000) (hi : i = (k : Int)) (hk : k ≤ s.size) :
    Calls Try.prog 77 #[.string s, .int .i64 i, .string ⟨#[x, y]⟩] w fun e w' => e = .returned (.bool (b2 s k x y)) ∧ w = w' := by
  subst hi
  by_cases h : k + 2 ≤ s.size
  · have F := Lib.hid (show b2 s k x y = ((s.extract k (k + 2)).toList == [x, y]) by unfold b2; rw [decide_eq_true h]; rfl)
    go_enter Try.func77, Try.ntmps77
    go_wp2_with fail
    all_goals
      go_ret
      refine ⟨?_, rfl⟩
      rw [F.out]
      first
      | rfl
      | (simp_all; done)
      | (exfalso; omega)
  · have F := Lib.hid (show b2 s k x y = false by unfold b2; rw [decide_eq_false h]; rfl)
    have h' : ¬ ((2 : Int) ≤ (s.size : Int) - (k : Int)) := by omega
    go_enter Try.func77, Try.ntmps77
    go_wp2_with fail
    go_ret
    exact ⟨by rw [F.out]; rfl, rfl⟩
/-- what the document's own look for a gap hands back at a place -/
def Rmk (s : ByteArray) (k : Nat) (v : Int) : Prop :=
  (v = (k : Int) ∧ skipN (s.data.toList.drop k) = 0) ∨
  (v = -1 ∧ skipN (s.data.toList.drop k) = 0 ∧ readT (s.data.toList.drop k) = none) ∨
  (∃ e : Nat, v = (e : Int) ∧ k < e ∧ e ≤ s.size ∧ k + skipN (s.data.toList.drop k) = e + skipN (s.data.toList.drop e))

theorem sign_slash (r : List UInt8) : readT (47 :: 42 :: r) = none := by
  have h1 : ∀ x, signL [47, 42, x] = false := by intro x; simp [signL]
  rw [readT_cons]
  rw [if_neg (by decide), if_neg (by decide), if_neg (by rw [show ((47 : UInt8) == 126) = false from rfl]; simp), if_neg (by decide), if_neg (by decide), if_neg (by decide)]
  unfold signT
  have e3 : (decide (3 ≤ (47 :: 42 :: r : List UInt8).length) && signL ((47 :: 42 :: r : List UInt8).take 3)) = false := by
    rcases r with _ | ⟨e, r⟩
    · simp
    · simp [h1]
  rw [e3]
  simp [signL]
theorem skip_step {s : ByteArray} {k g : Nat} (hg : gapN (s.data.toList.drop k) = g) (h0 : 0 < g) : k + skipN (s.data.toList.drop k) = k + g + skipN (s.data.toList.drop (k + g)) := by
  have := skipN_step (l := s.data.toList.drop k) (by rw [hg]; omega)
  rw [hg, List.drop_drop] at this
  rw [this]; omega
theorem gap_bl {s : ByteArray} {k : Nat} (hlt : k < s.size) (q : blB (s[k].toNat : Int) = true) : gapN (s.data.toList.drop k) = 1 := by
  rw [drop1 s k hlt, gapN, blU, q]; rfl
theorem gap_line {s : ByteArray} {k : Nat} (hlt : k < s.size) (q1 : blB (s[k].toNat : Int) = false) (q : ((s[k].toNat : Int) == 37) = true) : gapN (s.data.toList.drop k) = lineN (s.data.toList.drop k) := by
  rw [drop1 s k hlt, gapN, blU, q1, beq_b _ 37 37 rfl _ q]; rfl
theorem gap_nest {s : ByteArray} {k : Nat} (hlt : k < s.size) (q1 : blB (s[k].toNat : Int) = false) (q : ((s[k].toNat : Int) == 37) = false) : gapN (s.data.toList.drop k) = nestedN (s.data.toList.drop k) := by
  rw [drop1 s k hlt, gapN, blU, q1, beq_b _ 37 37 rfl _ q]; rfl
theorem nest_no {s : ByteArray} {k : Nat} (h : b2 s k 47 42 = false) : nestedN (s.data.toList.drop k) = 0 := by
  rcases Nat.lt_or_ge (k + 1) s.size with h1 | h1
  · rw [b2_eq h1] at h
    rw [drop2 s k h1, nestedN, if_neg (by rw [h]; decide)]
  · have hl : (s.data.toList.drop k).length ≤ 1 := by simp; omega
    match hd : s.data.toList.drop k, hl with
    | [], _ => rfl
    | [_], _ => rfl
    | _ :: _ :: _, hl => simp at hl
theorem nest_yes {s : ByteArray} {k : Nat} (h : b2 s k 47 42 = true) : k + 1 < s.size ∧ s.data.toList.drop k = 47 :: 42 :: s.data.toList.drop (k + 2) := by
  have h1 : k + 1 < s.size := by
    unfold b2 at h; simp at h; omega
  refine ⟨h1, ?_⟩
  rw [b2_eq h1] at h
  simp at h
  rw [drop2 s k h1, h.1, h.2]
theorem nest_at {s : ByteArray} {k : Nat} (h : b2 s k 47 42 = true) : nestedN (s.data.toList.drop k) = nestAt 1 (k + 2) s.data.toList - k := by
  obtain ⟨h1, h2⟩ := nest_yes h
  rw [h2]
  unfold nestedN nestAt
  simp
  rcases nestN 1 (s.data.toList.drop (k + 2)) with _ | n
  · simp
  · simp; omega
def RmkPost (s : ByteArray) (k : Nat) (w : World) (e : Ending) (w' : World) : Prop := ∃ v : Int, Rmk s k v ∧ e = .returned (.int .i64 v) ∧ w = w'

/-- the loop over a remark up to its line's end -/
def LineTo (s : ByteArray) (k0 k : Nat) : Prop := lineN (s.data.toList.drop k0) = (k - k0) + lineN (s.data.toList.drop k)
theorem LineTo.step {s : ByteArray} {k0 k : Nat} (h : LineTo s k0 k) (hk : k0 ≤ k) (hlt : k < s.size) (q : ((s[k].toNat : Int) == 10) = false) : LineTo s k0 (k + 1) := by
  unfold LineTo at h ⊢
  rw [h, drop1 s k hlt, lineN, beq_b _ 10 10 rfl _ q]
  simp; omega
theorem LineTo.stop {s : ByteArray} {k0 k : Nat} (h : LineTo s k0 k) (hk : k0 < k) (hks : k ≤ s.size) (q : ¬ k < s.size ∨ ∃ hlt : k < s.size, ((s[k].toNat : Int) == 10) = true)
    (hg : gapN (s.data.toList.drop k0) = lineN (s.data.toList.drop k0)) : k0 + skipN (s.data.toList.drop k0) = k + skipN (s.data.toList.drop k) := by
  unfold LineTo at h
  rcases q with q | ⟨hlt, q⟩
  · have hz : s.data.toList.drop k = [] := List.drop_of_length_le (by simp; omega)
    rw [hz] at h
    have h' : lineN (s.data.toList.drop k0) = k - k0 := by rw [h]; rfl
    rw [skip_step (hg.trans h') (by omega)]
    have : k0 + (k - k0) = k := by omega
    rw [this]
  · have h1 : lineN (s.data.toList.drop k) = 1 := by rw [drop1 s k hlt, lineN, beq_b _ 10 10 rfl _ q]; rfl
    rw [h1] at h
    have hb : gapN (s.data.toList.drop k) = 1 := gap_bl hlt (by
      unfold blB; rw [q]; simp)
    rw [skip_step (hg.trans h) (by omega), skip_step hb (by omega)]
    have : k0 + (k - k0 + 1) = k + 1 := by omega
    rw [this]

set_option maxHeartbeats 4000000 in
theorem remark_any (s : ByteArray) (k0 : Nat) (i : Int) (w : World) (hs : s.size ≤ 100000) (hi : i = (k0 : Int)) (hlt0 : k0 < s.size) :
    Calls Try.prog 58 #[.string s, .int .i64 i] w (RmkPost s k0 w) := by
  subst hi
  rcases q1 : blB (s[k0].toNat : Int) with _ | _
  · rcases q2 : ((s[k0].toNat : Int) == 37) with _ | _
    · have fin : ∀ b1 b2 b3 b4 : Bool, ((s[k0].toNat : Int) == 32) = b1 → ((s[k0].toNat : Int) == 9) = b2 → ((s[k0].toNat : Int) == 10) = b3 → ((s[k0].toNat : Int) == 13) = b4 → (b1 || b2 || b3 || b4) = false := by
        intro b1 b2 b3 b4 e1 e2 e3 e4; rw [← q1]; simp only [blB, e1, e2, e3, e4]
      have H := fin _ _ _ _ rfl rfl rfl rfl
      simp only [Bool.or_eq_false_iff] at H
      obtain ⟨⟨⟨h1, h2⟩, h3⟩, h4⟩ := H
      have HG := Lib.hid (gap_nest hlt0 q1 q2)
      clear fin q1
      rcases hb : b2 s k0 47 42 with _ | _
      · have F := Lib.hid (show Rmk s k0 k0 from .inl ⟨rfl, skipN_zero (HG.out.trans (nest_no hb))⟩)
        go_enter Try.func58, Try.ntmps58
        go_wp2_with fail
        refine (begins_any s k0 _ _ _ _ hs rfl (by omega)).mono ?_
        rintro e w' ⟨rfl, rfl⟩
        go_wp2_with fail
        go_ret
        exact ⟨_, F.out, rfl, rfl⟩
      · have NA := Lib.hid (nest_at hb)
        obtain ⟨hk1, hd2⟩ := nest_yes hb
        have HD := Lib.hid hd2
        clear hd2
        go_enter Try.func58, Try.ntmps58
        go_wp2_with fail
        refine (begins_any s k0 _ _ _ _ hs rfl (by omega)).mono ?_
        rintro e w' ⟨rfl, rfl⟩
        go_wp2_with fail
        go_loop [6, 7] (fun d i => ∃ (e k : Nat), k0 + 2 ≤ k ∧ k ≤ s.size ∧ 1 ≤ e ∧ e ≤ k ∧ d = .int .i64 e ∧ i = .int .i64 k ∧ nestAt 1 (k0 + 2) s.data.toList = nestAt e k s.data.toList) (fun _ i => s.size - (intOf i).toNat)
        case atStart => exact ⟨1, k0 + 2, Nat.le_refl _, by omega, Nat.le_refl _, by omega, rfl, by go_num, rfl⟩
        case round =>
          obtain ⟨e, k, hk0, hk, he, hek, rfl, rfl, hR⟩ := hrel
          have R := Lib.hid hR
          clear hR
          by_cases hlt : k < s.size
          · have C1 := Lib.hid (begins_any s k (k : Int) 47 42 w hs rfl hk)
            have C2 := Lib.hid (begins_any s k (k : Int) 42 47 w hs rfl hk)
            rcases r1 : b2 s k 47 42 with _ | _
            · rcases r2 : b2 s k 42 47 with _ | _
              · have D1 := C1.out
                rw [r1] at D1
                have D1 := Lib.hid D1
                have D2 := C2.out
                rw [r2] at D2
                have D2 := Lib.hid D2
                have NX := Lib.hid (show nestAt 1 (k0 + 2) s.data.toList = nestAt e (k + 1) s.data.toList by
                  rw [R.out]
                  rcases Nat.lt_or_ge (k + 1) s.size with h | h
                  · rw [b2_eq h] at r1 r2
                    exact nestAt_more (drop2 s k h) r1 r2 (drop1 s (k + 1) h)
                  · rw [nestAt_none (by simp; omega), nestAt_none (by simp; omega)])
                clear C1 C2 r1 r2
                go_wp2_with fail
                refine D1.out.mono ?_
                rintro e w' ⟨rfl, rfl⟩
                go_wp2_with fail
                refine D2.out.mono ?_
                rintro e w' ⟨rfl, rfl⟩
                go_wp2_with fail
                go_round
                case rel => exact ⟨e, k + 1, by omega, by omega, he, by omega, rfl, by go_num, NX.out⟩
                case measure => simp [intOf]; omega
              · have h : k + 1 < s.size := by
                  rcases Nat.lt_or_ge (k + 1) s.size with h | h
                  · exact h
                  · rw [b2_short (by omega)] at r2; cases r2
                have D1 := C1.out
                rw [r1] at D1
                have D1 := Lib.hid D1
                have D2 := C2.out
                rw [r2] at D2
                have D2 := Lib.hid D2
                rw [b2_eq h] at r2
                have r2 := Lib.hid r2
                by_cases he1 : e = 1
                · have z : ((e : Int) - 1 == 0) = true := by rw [he1]; rfl
                  have F := Lib.hid (show Rmk s k0 ((k : Int) + 2) by
                    have hN : nestAt 1 (k0 + 2) s.data.toList = k + 2 := by rw [R.out, he1]; exact nestAt_end (drop2 s k h) r2.out
                    have hg : gapN (s.data.toList.drop k0) = k + 2 - k0 := by rw [HG.out, NA.out, hN]
                    refine .inr (.inr ⟨k + 2, by omega, by omega, by omega, ?_⟩)
                    rw [skip_step hg (by omega)]
                    have : k0 + (k + 2 - k0) = k + 2 := by omega
                    rw [this])
                  clear C1 C2 r1 he1
                  go_wp2_with fail
                  refine D1.out.mono ?_
                  rintro e w' ⟨rfl, rfl⟩
                  go_wp2_with fail
                  refine D2.out.mono ?_
                  rintro e w' ⟨rfl, rfl⟩
                  go_wp2_with fail
                  go_ret
                  exact ⟨_, F.out, rfl, rfl⟩
                · have z : ((e : Int) - 1 == 0) = false := by simp; omega
                  have he2 : 2 ≤ e := by omega
                  have NX := Lib.hid (R.out.trans (nestAt_shut (drop2 s k h) r2.out rfl (by omega)))
                  clear C1 C2 r1 he1
                  go_wp2_with fail
                  refine D1.out.mono ?_
                  rintro e w' ⟨rfl, rfl⟩
                  go_wp2_with fail
                  refine D2.out.mono ?_
                  rintro e w' ⟨rfl, rfl⟩
                  go_wp2_with fail
                  go_round
                  case rel => exact ⟨e - 1, k + 2, by omega, by omega, by omega, by omega, by congr 1; omega, by go_num, NX.out⟩
                  case measure => simp [intOf]; omega
            · have h : k + 1 < s.size := by
                rcases Nat.lt_or_ge (k + 1) s.size with h | h
                · exact h
                · rw [b2_short (by omega)] at r1; cases r1
              have D1 := C1.out
              rw [r1] at D1
              have D1 := Lib.hid D1
              rw [b2_eq h] at r1
              have NX := Lib.hid (R.out.trans (nestAt_open (drop2 s k h) r1 rfl))
              clear C1 C2 r1
              go_wp2_with fail
              refine D1.out.mono ?_
              rintro e w' ⟨rfl, rfl⟩
              go_wp2_with fail
              go_round
              case rel => exact ⟨e + 1, k + 2, by omega, by omega, by omega, by omega, by go_num, by go_num, NX.out⟩
              case measure => simp [intOf]; omega
          · have F := Lib.hid (show Rmk s k0 (-1) by
              have hN : nestAt 1 (k0 + 2) s.data.toList = 0 := by rw [R.out]; exact nestAt_none (by simp; omega)
              have hg : gapN (s.data.toList.drop k0) = 0 := by rw [HG.out, NA.out, hN]; simp
              exact .inr (.inl ⟨rfl, skipN_zero hg, by rw [HD.out]; exact sign_slash _⟩))
            go_wp2_with fail
            go_ret
            exact ⟨_, F.out, rfl, rfl⟩
    · have fin : ∀ b1 b2 b3 b4 : Bool, ((s[k0].toNat : Int) == 32) = b1 → ((s[k0].toNat : Int) == 9) = b2 → ((s[k0].toNat : Int) == 10) = b3 → ((s[k0].toNat : Int) == 13) = b4 → (b1 || b2 || b3 || b4) = false := by
        intro b1 b2 b3 b4 e1 e2 e3 e4; rw [← q1]; simp only [blB, e1, e2, e3, e4]
      have H := fin _ _ _ _ rfl rfl rfl rfl
      simp only [Bool.or_eq_false_iff] at H
      obtain ⟨⟨⟨h1, h2⟩, h3⟩, h4⟩ := H
      have HG := Lib.hid (gap_line hlt0 q1 q2)
      have H3 := Lib.hid h3
      clear fin q1
      go_enter Try.func58, Try.ntmps58
      go_wp2_with fail
      go_loop [1] (fun i => ∃ (k : Nat), k0 ≤ k ∧ k ≤ s.size ∧ i = .int .i64 k ∧ LineTo s k0 k) (fun i => s.size - (intOf i).toNat)
      case atStart => exact ⟨k0, Nat.le_refl _, by omega, rfl, by unfold LineTo; simp⟩
      case round =>
        obtain ⟨k, hk0, hk, rfl, hR⟩ := hrel
        have R := Lib.hid hR
        clear hR
        by_cases hlt : k < s.size
        · rcases r1 : ((s[k].toNat : Int) == 10) with _ | _
          · have r1' : ((s[k].toNat : Int) != 10) = true := by simp only [bne, r1]; rfl
            go_wp2_with fail
            go_round
            case rel => exact ⟨k + 1, by omega, by omega, by go_num, R.out.step hk0 hlt r1⟩
            case measure => simp [intOf]; omega
          · have r1' : ((s[k].toNat : Int) != 10) = false := by simp only [bne, r1]; rfl
            have hne : k0 < k := by
              rcases Nat.lt_or_ge k0 k with h | h
              · exact h
              · exfalso
                have : k = k0 := by omega
                subst this
                have := H3.out
                rw [r1] at this; cases this
            have F := Lib.hid (show Rmk s k0 k from .inr (.inr ⟨k, rfl, hne, hk, R.out.stop hne hk (.inr ⟨hlt, r1⟩) HG.out⟩))
            go_wp2_with fail
            go_ret
            exact ⟨_, F.out, rfl, rfl⟩
        · have F := Lib.hid (show Rmk s k0 k from .inr (.inr ⟨k, rfl, by omega, hk, R.out.stop (by omega) hk (.inl hlt) HG.out⟩))
          go_wp2_with fail
          go_ret
          exact ⟨_, F.out, rfl, rfl⟩
  · have F : Rmk s k0 ((k0 + 1 : Nat) : Int) := .inr (.inr ⟨k0 + 1, rfl, by omega, by omega, skip_step (gap_bl hlt0 q1) (by omega)⟩)
    have F := Lib.hid F
    have fin : ∀ b1 b2 b3 b4 : Bool, ((s[k0].toNat : Int) == 32) = b1 → ((s[k0].toNat : Int) == 9) = b2 → ((s[k0].toNat : Int) == 10) = b3 → ((s[k0].toNat : Int) == 13) = b4 → (b1 || b2 || b3 || b4) = true := by
      intro b1 b2 b3 b4 e1 e2 e3 e4; rw [← q1]; simp only [blB, e1, e2, e3, e4]
    clear q1
    rcases h1 : ((s[k0].toNat : Int) == 32) with _ | _ <;> rcases h2 : ((s[k0].toNat : Int) == 9) with _ | _ <;> rcases h3 : ((s[k0].toNat : Int) == 10) with _ | _ <;> rcases h4 : ((s[k0].toNat : Int) == 13) with _ | _
    all_goals
      first
      | (exfalso; have := fin _ _ _ _ h1 h2 h3 h4; revert this; decide)
      | (exfalso; simp only [beq_iff_eq, beq_eq_false_iff_ne] at h1 h2 h3 h4; omega)
      | (clear fin
         go_enter Try.func58, Try.ntmps58
         go_wp2_with fail
         go_ret
         exact ⟨_, F.out, rfl, rfl⟩)
end Go.Proofs.Ytjiihfdbdbhhaaa
