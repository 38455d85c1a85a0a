/-
  A family's text: both sides', exactly.
-/
import Derived.Test.YtcbjkclajkjicaaGreatDoorTxR
import Derived.Test.YtcbjkclajkjicaaGreatDoorTaC
import Derived.Test.YtcbjkclajkjicaaGreatDoorTaD
import Derived.Test.YtcbjkclajkjicaaGreatDoorTxM
namespace Go.Proofs.YtcbjkclajkjicaaGreatDoor
set_option linter.unusedSimpArgs false
set_option linter.unusedVariables false
open Go Go.RowKit Go.Lib Go.Ev

theorem bi_length (x : Nat) : (bitsOf 64 0 x).length = (bi x).length := by unfold bi; rw [List.length_map]
theorem natCells_bi (x : Nat) : natCells (bitsOf 64 0 x) = (bi x).map (Value.int .i64) := by
  unfold natCells bi
  rw [List.map_map]
  rfl
/-- a list that is handed out can be read -/
theorem bitrow_ints {W : World} {base x : Nat} {v : Value} (hx : x < 18446744073709551616) (h : BitRow W base v x) : ∃ G cap, v = .slice G (bi x).length cap ∧ Ints W G (bi x) := by
  obtain ⟨⟨G, cap, rfl⟩, ho⟩ := h
  rw [natCells_bi] at ho
  rw [bi_length] at ho ⊢
  refine ⟨G, cap, rfl, ?_⟩
  have hr := bi_all hx
  rw [List.all_eq_true] at hr
  exact ints_of_rowAt (base := base) (by rw [bi_len hx]; have := ones_le64 hx; omega) (fun y hy => by
    have := hr y hy
    simp only [inR, Bool.and_eq_true, decide_eq_true_eq] at this
    omega) (fun hp => rowAt_of_owns ho hp)
theorem famOut_ints {W : World} {base lo hi : Nat} {mn mx : Int} {v : Value} (h1 : lo < 18446744073709551616) (h2 : hi < 18446744073709551616) (h : FamOut W base lo hi mn mx v) :
    ∃ G1 k1 G2 k2, v = .agg #[.slice G1 (bi lo).length k1, .slice G2 (bi hi).length k2, .int .i64 mn, .int .i64 mx] ∧ Ints W G1 (bi lo) ∧ Ints W G2 (bi hi) := by
  obtain ⟨v1, v2, rfl, r1, r2, _⟩ := h
  obtain ⟨G1, k1, rfl, i1⟩ := bitrow_ints h1 r1
  obtain ⟨G2, k2, rfl, i2⟩ := bitrow_ints h2 r2
  exact ⟨G1, k1, G2, k2, rfl, i1, i2⟩
theorem valid_parts {lo hi : List Int} {mn mx : Int} (h : validFB lo hi mn mx = true) : elemsB lo = true ∧ elemsB hi = true ∧ inS mn = true ∧ inS mx = true := by
  unfold validFB at h
  simp only [Bool.and_eq_true] at h
  exact ⟨h.1.1.1, h.1.1.2, h.1.2, h.2⟩
theorem MeetRes.bad {L H : Nat} {mn mx : Int} {w w' : World} {e : Ending} (h : MeetRes false L H mn mx w e w') : e = .returned (.tuple #[.agg #[.slice none 0 0, .slice none 0 0, .int .i64 0, .int .i64 0], .int .i64 2]) ∧ Below w.heap.size w w' := by
  unfold MeetRes at h
  rwa [if_neg Bool.false_ne_true] at h
theorem MeetRes.fail {L H : Nat} {mn mx : Int} {w w' : World} {e : Ending} (h : MeetRes true L H mn mx w e w') (hk : okN L H mn mx = false) : e = .returned (.tuple #[.agg #[.slice none 0 0, .slice none 0 0, .int .i64 0, .int .i64 0], .int .i64 60]) ∧ Below w.heap.size w w' := by
  unfold MeetRes NormRes at h
  rwa [if_pos rfl, hk, if_neg Bool.false_ne_true] at h
theorem MeetRes.good {L H : Nat} {mn mx : Int} {w w' : World} {e : Ending} (hL : L < 18446744073709551616) (hH : H < 18446744073709551616) (h : MeetRes true L H mn mx w e w') (hk : okN L H mn mx = true) :
    (∃ G1 k1 G2 k2, e = .returned (.tuple #[.agg #[.slice G1 (bi (nlo L H mn)).length k1, .slice G2 (bi (nhi L H mn mx)).length k2, .int .i64 (nmn L mn), .int .i64 (nmx H mx)], .int .i64 0]) ∧ Ints w' G1 (bi (nlo L H mn)) ∧ Ints w' G2 (bi (nhi L H mn mx))) ∧ Below w.heap.size w w' := by
  unfold MeetRes NormRes at h
  rw [if_pos rfl, if_pos hk] at h
  obtain ⟨⟨v, rfl, fo⟩, hb⟩ := h
  obtain ⟨G1, k1, G2, k2, rfl, i1, i2⟩ := famOut_ints (nlo_lt hL hH) (nhi_lt hL hH) fo
  exact ⟨⟨G1, k1, G2, k2, rfl, i1, i2⟩, hb⟩

theorem join_tail : ∀ xs : List Int, tailB xs = Lib.joinTail [32] (xs.map fun x => db x.toNat)
  | [] => rfl
  | x :: xs => by
    show 32 :: (db x.toNat ++ tailB xs) = _
    rw [join_tail xs]
    simp [Lib.joinTail]
theorem join_eq (l : List Int) : Lib.join (l.map fun x => db x.toNat) [32] = joinB l := by
  cases l with
  | nil => rfl
  | cons x xs => rw [List.map_cons, Lib.join_cons, ← join_tail]; rfl
theorem db_len (n : Nat) : (db n).length ≤ 2 := by unfold db bytesI; rw [List.length_map]; exact digs_length n
theorem tailB_len : ∀ l : List Int, (tailB l).length ≤ 3 * l.length
  | [] => by simp [tailB]
  | x :: xs => by
    have := tailB_len xs
    have := db_len x.toNat
    unfold tailB
    simp only [List.length_cons, List.length_append]
    omega
theorem joinB_len (l : List Int) : (joinB l).length ≤ 3 * l.length := by
  cases l with
  | nil => simp [joinB]
  | cons x xs =>
    have := tailB_len xs
    have := db_len x.toNat
    unfold joinB
    simp only [List.length_cons, List.length_append]
    omega
theorem join_ok : JoinOk := by
  intro l hx hl g w1 hc hg
  have hm : (l.map fun x => numB x.toNat).map (·.data.toList) = l.map fun x => db x.toNat := by rw [List.map_map]; rfl
  have hj : Lib.join ((l.map fun x => numB x.toNat).map (·.data.toList)) (⟨#[32]⟩ : ByteArray).data.toList = joinB l := by rw [hm]; exact join_eq l
  have hlen := joinB_len l
  have key := Tryz.strings_Join g 0 l.length (l.map fun x => numB x.toNat) ⟨#[32]⟩ w1 (fun j x hj => by
    rw [List.getElem?_map] at hj
    cases e : l[j]? with
    | none => rw [e] at hj; cases hj
    | some y =>
      rw [e] at hj
      injection hj with hj
      obtain ⟨hlt, he⟩ := List.getElem?_eq_some_iff.1 e
      have := hc j hlt
      rw [Nat.zero_add, this, ← hj, List.getD_eq_getElem?_getD, e]
      rfl) hg (by rw [List.length_map]; omega) (by rw [List.length_map]; exact Nat.le_refl _) (by rw [hj]; omega)
  rw [hj, List.length_map] at key
  exact key
/-- whether a family is one in normal form -/
def normF (lo hi : List Int) (mn mx : Int) : Bool := validFB lo hi mn mx && normB (setN lo) (setN hi) mn mx
theorem normF_valid {lo hi : List Int} {mn mx : Int} (h : normF lo hi mn mx = true) : validFB lo hi mn mx = true := by
  unfold normF at h
  simp only [Bool.and_eq_true] at h
  exact h.1
theorem valid_range {lo hi : List Int} {mn mx : Int} (h : validFB lo hi mn mx = true) : InRange lo hi mn mx := by
  obtain ⟨h1, h2, h3, h4⟩ := valid_parts h
  have a1 := elems_all h1
  have a2 := elems_all h2
  rw [List.all_eq_true] at a1 a2
  have l1 := len_setN h1
  have l2 := len_setN h2
  have o1 := ones_le64 (setN_lt (elems_all h1))
  have o2 := ones_le64 (setN_lt (elems_all h2))
  unfold inS at h3 h4
  simp only [Bool.and_eq_true, decide_eq_true_eq] at h3 h4
  refine ⟨fun x hx => ?_, fun x hx => ?_, by omega, by omega, by omega, by omega⟩
  · have := a1 x hx
    simp only [inR, Bool.and_eq_true, decide_eq_true_eq] at this
    omega
  · have := a2 x hx
    simp only [inR, Bool.and_eq_true, decide_eq_true_eq] at this
    omega
/-- what Text answers -/
def txT (lo hi : List Int) (mn mx : Int) : ByteArray × Int := if normF lo hi mn mx = true then (famL lo hi mn.toNat mx.toNat, 0) else (⟨#[]⟩, 2)
theorem Text_p (lo hi : List Int) (mn mx : Int) (A B : Option Addr) (c1 c2 : Nat) (w : World) (ha : Ints w A lo) (hb : Ints w B hi) :
    Calls Tryz.prog 6 #[.agg #[.slice A lo.length c1, .slice B hi.length c2, .int .i64 mn, .int .i64 mx]] w fun e w' => e = .returned (.tuple #[.string (txT lo hi mn mx).1, .int .i64 (txT lo hi mn mx).2]) ∧ Below w.heap.size w w' := by
  refine (TextP_any lo hi mn mx A B c1 c2 w ha hb (normF lo hi mn mx) (fun h => valid_range (normF_valid h)) join_ok (fun w1 h => isNormal_any lo hi mn mx A B c1 c2 w1 (ha.over h) (hb.over h))).mono ?_
  rintro e w' ⟨rfl, hw⟩
  refine ⟨?_, hw⟩
  unfold txT
  split <;> rfl
def sameB (L H : Nat) (mn mx : Int) : Bool := decide ((nlo L H mn : Int) = (L : Int) ∧ (nhi L H mn mx : Int) = (H : Int) ∧ nmn L mn = mn ∧ nmx H mx = mx)
theorem same_eq {L H : Nat} {mn mx : Int} (hL : L < 18446744073709551616) (hH : H < 18446744073709551616) :
    sameN (setN (bi (nlo L H mn))) (setN (bi (nhi L H mn mx))) L H (nmn L mn) (nmx H mx) mn mx = sameB L H mn mx := by
  rw [setN_bi (nlo_lt hL hH), setN_bi (nhi_lt hL hH)]
  unfold sameN sameB
  by_cases h1 : (nlo L H mn : Int) = (L : Int) <;> by_cases h2 : (nhi L H mn mx : Int) = (H : Int) <;> by_cases h3 : nmn L mn = mn <;> by_cases h4 : nmx H mx = mx <;> simp [h1, h2, h3, h4]
/-- the error of Normal -/
def errN (lo hi : List Int) (mn mx : Int) : Int := if validFB lo hi mn mx = true then (if okN (setN lo) (setN hi) mn mx = true then 0 else 60) else 2
theorem norm_iff (lo hi : List Int) (mn mx : Int) : (errN lo hi mn mx = 0 ∧ sameB (setN lo) (setN hi) mn mx = true) ↔ normF lo hi mn mx = true := by
  unfold errN normF normB sameB
  by_cases h1 : validFB lo hi mn mx = true
  · by_cases h2 : okN (setN lo) (setN hi) mn mx = true
    · rw [if_pos h1, if_pos h2, h1, h2]; simp
    · rw [if_pos h1, if_neg h2]; simp [h2]
  · rw [if_neg h1]; simp [h1]
theorem Text_d (lo hi : List Int) (mn mx : Int) (A B : Option Addr) (c1 c2 : Nat) (w : World) (ha : Ints w A lo) (hb : Ints w B hi) :
    Calls Tryz.prog 7 #[.agg #[.slice A lo.length c1, .slice B hi.length c2, .int .i64 mn, .int .i64 mx]] w fun e w' => e = .returned (.tuple #[.string (txT lo hi mn mx).1, .int .i64 (txT lo hi mn mx).2]) ∧ Below w.heap.size w w' := by
  refine (TextD_any lo hi mn mx A B c1 c2 w ha hb (errN lo hi mn mx) (sameB (setN lo) (setN hi) mn mx) (fun h k => valid_range (normF_valid ((norm_iff lo hi mn mx).1 ⟨h, k⟩))) (fun w1 h => ?_)).mono ?_
  · refine (Normal_r_any lo hi mn mx A B c1 c2 w1 (ha.over h) (hb.over h)).mono ?_
    intro e w' hr
    unfold errN
    cases hv : validFB lo hi mn mx with
    | false =>
      rw [hv] at hr
      obtain ⟨rfl, hb⟩ := hr.bad
      exact ⟨⟨_, _, _, _, _, _, _, _, rfl, fun h => absurd h (by simp)⟩, hb⟩
    | true =>
      rw [hv] at hr
      obtain ⟨v1, v2, v3, v4⟩ := valid_parts hv
      have hL := setN_lt (elems_all v1)
      have hH := setN_lt (elems_all v2)
      cases hk : okN (setN lo) (setN hi) mn mx with
      | false =>
        obtain ⟨rfl, hb⟩ := hr.fail hk
        exact ⟨⟨_, _, _, _, _, _, _, _, rfl, fun h => absurd h (by simp)⟩, hb⟩
      | true =>
        obtain ⟨⟨G1, k1, G2, k2, rfl, i1, i2⟩, hb2⟩ := hr.good hL hH hk
        refine ⟨⟨_, _, _, _, _, _, _, _, rfl, fun _ w2 hw2 => ?_⟩, hb2⟩
        have hab := ((h.trans (hb2.mono h.size)).trans (hw2.mono (Nat.le_trans h.size hb2.size)))
        have := Same_any (bi (nlo (setN lo) (setN hi) mn)) (bi (nhi (setN lo) (setN hi) mn mx)) lo hi (nmn (setN lo) mn) (nmx (setN hi) mx) mn mx G1 G2 A B k1 k2 c1 c2 w2 (i1.over hw2) (i2.over hw2) (ha.over hab) (hb.over hab) (normal_valid hL hH v3 hk) hv
        rw [same_eq hL hH] at this
        exact this
  · rintro e w' ⟨rfl, hw⟩
    refine ⟨?_, hw⟩
    unfold txT
    by_cases hn : normF lo hi mn mx = true
    · rw [if_pos ((norm_iff lo hi mn mx).2 hn), if_pos hn]
    · rw [if_neg (fun h => hn ((norm_iff lo hi mn mx).1 h)), if_neg hn]
end Go.Proofs.YtcbjkclajkjicaaGreatDoor
