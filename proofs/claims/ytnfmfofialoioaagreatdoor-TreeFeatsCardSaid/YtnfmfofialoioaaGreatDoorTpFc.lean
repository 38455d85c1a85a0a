/-
  The order of features, plain: strict, total, transitive.
-/
import Derived.Test.YtnfmfofialoioaaGreatDoorTpFb
namespace Go.Proofs.YtnfmfofialoioaaGreatDoor
open Go.RowKit T

theorem u8_lt {a b : UInt8} : a < b ↔ a.toNat < b.toNat := UInt8.lt_iff_toNat_lt
theorem u8_eq {a b : UInt8} : a = b ↔ a.toNat = b.toNat := ⟨fun h => by rw [h], fun h => UInt8.toNat_inj.1 h⟩
theorem bl_cons (a b : UInt8) (x y : List UInt8) : Op.bytesLess (a :: x) (b :: y) = true ↔ (a.toNat < b.toNat ∨ (a.toNat = b.toNat ∧ Op.bytesLess x y = true)) := by
  simp only [Op.bytesLess, Bool.or_eq_true, Bool.and_eq_true, decide_eq_true_eq, beq_iff_eq, u8_lt, u8_eq]
theorem bl_asymm : ∀ (x y : List UInt8), Op.bytesLess x y = true → ¬ Op.bytesLess y x = true
  | [], [], h => by simp [Op.bytesLess] at h
  | _ :: _, [], h => by simp [Op.bytesLess] at h
  | [], _ :: _, _ => by simp [Op.bytesLess]
  | a :: x, b :: y, h => by
    rw [bl_cons] at h ⊢
    have := bl_asymm x y
    rintro (h2 | ⟨h2, h3⟩)
    · rcases h with h | ⟨h, h4⟩ <;> omega
    · rcases h with h | ⟨h, h4⟩
      · omega
      · exact this h4 h3
theorem bl_total : ∀ (x y : List UInt8), x ≠ y → Op.bytesLess x y = true ∨ Op.bytesLess y x = true
  | [], [], h => absurd rfl h
  | _ :: _, [], _ => .inr (by simp [Op.bytesLess])
  | [], _ :: _, _ => .inl (by simp [Op.bytesLess])
  | a :: x, b :: y, h => by
    rw [bl_cons, bl_cons]
    rcases Nat.lt_trichotomy a.toNat b.toNat with h1 | h1 | h1
    · exact .inl (.inl h1)
    · have hxy : x ≠ y := fun e => h (by rw [e, u8_eq.2 h1])
      rcases bl_total x y hxy with h2 | h2
      · exact .inl (.inr ⟨h1, h2⟩)
      · exact .inr (.inr ⟨h1.symm, h2⟩)
    · exact .inr (.inl h1)
theorem bl_trans : ∀ (x y z : List UInt8), Op.bytesLess x y = true → Op.bytesLess y z = true → Op.bytesLess x z = true
  | _, [], _, h, _ => by rename_i x _; cases x <;> simp [Op.bytesLess] at h
  | _, _ :: _, [], _, h => by simp [Op.bytesLess] at h
  | [], _ :: _, _ :: _, _, _ => by simp [Op.bytesLess]
  | a :: x, b :: y, c :: z, h, k => by
    rw [bl_cons] at h k ⊢
    rcases h with h | ⟨h, h2⟩ <;> rcases k with k | ⟨k, k2⟩
    · exact .inl (by omega)
    · exact .inl (by omega)
    · exact .inl (by omega)
    · exact .inr ⟨by omega, bl_trans x y z h2 k2⟩

theorem bytes_eq {a b : ByteArray} (h : a.toList = b.toList) : a = b := by
  rw [Lib.toList_data, Lib.toList_data] at h
  exact ByteArray.ext (Array.toList_inj.1 h)
theorem featB_cases {n : Int} {x : ByteArray} (h : featB n x = true) : n = 0 ∨ (1 ≤ n ∧ x.toList = []) := by
  simp only [featB, Bool.or_eq_true, Bool.and_eq_true, beq_iff_eq, decide_eq_true_eq] at h
  rcases h with ⟨h, _⟩ | ⟨⟨h, _⟩, h2⟩
  · exact .inl h
  · exact .inr ⟨h, h2⟩
theorem less_iff (an bn : Int) (ax bx : ByteArray) : lessB an ax bn bx = true ↔ ((0 < an ∧ 0 < bn ∧ an < bn) ∨ (0 < an ∧ ¬ 0 < bn) ∨ (¬ 0 < an ∧ ¬ 0 < bn ∧ Op.bytesLess ax.toList bx.toList = true)) := by
  unfold lessB bltB
  by_cases h1 : 0 < an <;> by_cases h2 : 0 < bn <;> simp [h1, h2]
theorem less_asymm {an bn : Int} {ax bx : ByteArray} (h : lessB an ax bn bx = true) : lessB bn bx an ax = false := by
  rw [less_iff] at h
  rw [Bool.eq_false_iff, ne_eq, less_iff]
  rintro (k | k | k)
  · omega
  · omega
  · rcases h with h | h | h
    · omega
    · omega
    · exact bl_asymm _ _ h.2.2 k.2.2
theorem less_total {an bn : Int} {ax bx : ByteArray} (ha : featB an ax = true) (hb : featB bn bx = true) : (lessB an ax bn bx || lessB bn bx an ax) = true ↔ ¬ (an = bn ∧ ax = bx) := by
  rw [Bool.or_eq_true, less_iff, less_iff]
  constructor
  · rintro h ⟨rfl, rfl⟩
    have := bl_asymm ax.toList ax.toList
    rcases h with (h | h | h) | (h | h | h)
    all_goals first | omega | exact this h.2.2 h.2.2
  · intro h
    rcases featB_cases ha with ha | ⟨ha, ha2⟩ <;> rcases featB_cases hb with hb | ⟨hb, hb2⟩
    · subst ha hb
      rcases bl_total ax.toList bx.toList (fun e => h ⟨rfl, bytes_eq e⟩) with h2 | h2
      · exact .inl (.inr (.inr ⟨by omega, by omega, h2⟩))
      · exact .inr (.inr (.inr ⟨by omega, by omega, h2⟩))
    · exact .inr (.inr (.inl (by omega)))
    · exact .inl (.inr (.inl (by omega)))
    · have hne : an ≠ bn := fun e => h ⟨e, bytes_eq (by rw [ha2, hb2])⟩
      rcases Int.lt_or_gt_of_ne hne with h2 | h2
      · exact .inl (.inl (by omega))
      · exact .inr (.inl (by omega))
theorem less_trans {an bn cn : Int} {ax bx cx : ByteArray} (h : lessB an ax bn bx = true) (k : lessB bn bx cn cx = true) : lessB an ax cn cx = true := by
  rw [less_iff] at h k ⊢
  rcases h with h | h | h <;> rcases k with k | k | k
  all_goals first | exact .inl (by omega) | exact .inr (.inl (by omega)) | exact .inr (.inr ⟨by omega, by omega, bl_trans _ _ _ h.2.2 k.2.2⟩) | (exfalso; omega)

/-- the program's order is the document's, of features -/
theorem Less_feat (an bn : Int) (ax bx : ByteArray) (w : World) (ha : featB an ax = true) (hb : featB bn bx = true) :
    Calls Tryz.prog 7 #[.agg #[.int .i64 an, .string ax], .agg #[.int .i64 bn, .string bx]] w fun e w' => e = .returned (.bool (lessB an ax bn bx)) ∧ Below w.heap.size w w' := by
  refine (Less_any an bn ax bx w (by rcases featB_cases ha with h | h <;> omega) (by rcases featB_cases hb with h | h <;> omega)).mono ?_
  rintro e w' ⟨V, rfl, hV, hb'⟩
  refine ⟨?_, hb'⟩
  rw [hV]
  split
  · rename_i e
    subst e
    rcases featB_cases ha with h | ⟨h, h2⟩
    · subst h; simp [lessB]
    · rcases featB_cases hb with k | ⟨k, k2⟩
      · omega
      · have h0 : 0 < an := by omega
        simp [lessB, bltB, h0, h2, k2, Op.bytesLess]
  · rfl
end Go.Proofs.YtnfmfofialoioaaGreatDoor
