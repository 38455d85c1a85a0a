/-
  The law of features, its body run in every case of what its calls answer.
-/
import Derived.Test.YtnfmfofialoioaaGreatDoorFtTab
import Derived.Test.YtnfmfofialoioaaGreatDoorTpFc
import Derived.Laws.StructEq
namespace Go.Proofs.YtnfmfofialoioaaGreatDoor
open Go Go.Ev Go.RowKit T

def fEnv (an bn cn : Int) (ax bx cx : ByteArray) : Nat → Value
  | 0 => .int .i64 an
  | 1 => .string ax
  | 2 => .int .i64 bn
  | 3 => .string bx
  | 4 => .int .i64 cn
  | 5 => .string cx
  | 6 => .int .i64 ax.size
  | 7 => .int .i64 bx.size
  | 8 => .int .i64 cx.size
  | 9 => .int .i64 ((ax.size : Int) + bx.size)
  | 10 => .int .i64 ((ax.size : Int) + bx.size + cx.size)
  | _ => .int .i64 0
def fW (w : World) (an bn cn : Int) (ax bx cx : ByteArray) : W0 := ⟨w, fEnv an bn cn ax bx cx, 11, fun r _ => by unfold fEnv; split <;> exact ⟨rfl, rfl⟩⟩
/-- A feature whose number and text are two values, one behind the other. -/
def symOf : Value → Option Nat
  | .agg ⟨[.chan (some i), .chan (some j)]⟩ => if Nat.beq j (i + 1) then some i else none
  | _ => none
theorem sym_feat {w0 : W0} {φ : Pm} (sy : Sy w0 φ) {x x' : Value} {i : Nat} (h : symOf x = some i) (hx : VR φ x x') : x' = .agg #[w0.env i, w0.env (i + 1)] := by
  unfold symOf at h
  split at h
  · rename_i a b
    split at h
    · rename_i hb
      obtain rfl := Nat.eq_of_beq_eq_true hb
      cases h
      have one : ∀ {r : Nat} {v : Value}, VR φ (.chan (some r)) v → v = w0.env r := fun hv => by
        cases hv with
        | leaf hl => simp [leafB] at hl
        | top hr _ _ => exact sy.2 _ _ hr
      cases hx with
      | leaf hl => simp [leafB] at hl
      | @agg _ xs' hs hh =>
        obtain ⟨l⟩ := xs'
        rcases l with _ | ⟨p, _ | ⟨q, _ | ⟨r, l⟩⟩⟩ <;> simp at hs
        rw [one (hh 0 _ p rfl rfl), one (hh 1 _ q rfl rfl)]
    · cases h
  · cases h
def fOps (big ne : Bool) : OpO where
  bin b t v u := match b, v, u with
    | .add, .chan (some 6), .chan (some 7) => some (.chan (some 9))
    | .add, .chan (some 9), .chan (some 8) => some (.chan (some 10))
    | .gtr, .chan (some 10), .int .i64 1000 => some (.bool big)
    | .neq, x, y => if Nat.beq t 23 then (match symOf x, symOf y with
      | some 0, some 2 => some (.bool ne)
      | _, _ => none) else none
    | _, _, _ => none
  len t v := if Nat.beq t 9 then (match v with
    | .chan (some 1) => some (.chan (some 6))
    | .chan (some 3) => some (.chan (some 7))
    | .chan (some 5) => some (.chan (some 8))
    | _ => none) else none
def fOrc (fa fb fc ab ba bc ac : Bool) : Orc := fun k args => match args with
  | [] => if Nat.beq k 4 then some (.bool true) else none
  | [x] => if Nat.beq k 5 || Nat.beq k 6 then (match symOf x with
    | some 0 => some (.bool fa)
    | some 2 => some (.bool fb)
    | some 4 => some (.bool fc)
    | _ => none) else none
  | [x, y] => if fa && fb && fc then (if Nat.beq k 7 then (match symOf x, symOf y with
      | some 0, some 2 => some (.bool ab)
      | some 2, some 0 => some (.bool ba)
      | some 2, some 4 => some (.bool bc)
      | some 0, some 4 => some (.bool ac)
      | _, _ => none) else if Nat.beq k 8 then (match symOf x, symOf y with
      | some 0, some 2 => some (.bool ab)
      | _, _ => none) else none) else none
  | _ => none
def aOrc : Orc := fun k args => match args with
  | [] => if Nat.beq k 4 then some (.bool true) else none
  | _ => none
def fArgs : List Value := [.agg ⟨[.chan (some 0), .chan (some 1)]⟩, .agg ⟨[.chan (some 2), .chan (some 3)]⟩, .agg ⟨[.chan (some 4), .chan (some 5)]⟩]
def bools : List Bool := [true, false]
/-- What the law's calls may answer. -/
def fMay (fa fb fc ab ba bc ac ne : Bool) : Bool := !(fa && fb && fc) || (!(ab && ba) && (ab || ba) == ne && (!ab || !bc || ac))
noncomputable def fGives (fa fb fc ab ba bc ac ne : Bool) : Bool := gives Tryz.prog (fOps false ne) (fOrc fa fb fc ab ba bc ac) tab xtab 50 20 11 3 fArgs (.bool true)
set_option maxRecDepth 100000 in
theorem all_small : (bools.all fun fa => bools.all fun fb => bools.all fun fc => bools.all fun ab => bools.all fun ba => bools.all fun bc => bools.all fun ac => bools.all fun ne => !fMay fa fb fc ab ba bc ac ne || fGives fa fb fc ab ba bc ac ne) = true := by kernel_rfl
set_option maxRecDepth 100000 in
theorem all_big : (bools.all fun ne => gives Tryz.prog (fOps true ne) aOrc tab xtab 50 20 11 3 fArgs (.bool true)) = true := by kernel_rfl
end Go.Proofs.YtnfmfofialoioaaGreatDoor
