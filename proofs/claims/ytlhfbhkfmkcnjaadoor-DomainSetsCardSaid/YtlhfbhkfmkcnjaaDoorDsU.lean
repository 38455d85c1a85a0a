/-
  Two domains put together: the document's.
-/
import Derived.Test.YtlhfbhkfmkcnjaaDoorDsS
import Derived.Test.YtlhfbhkfmkcnjaaDoorDsM
namespace Go.Proofs.YtlhfbhkfmkcnjaaDoor
open Go Go.RowKit Go.Shelf Go.Ev

theorem inL_vals {d : List (Int × Int)} (hv : vd 0 d = true) (v : Nat) : inL (valsV d) v = d.any (inP v) := by
  unfold valsV
  rw [if_pos hv]
  unfold inL vals
  rw [Bool.eq_iff_iff, List.contains_iff_mem, List.mem_flatMap, List.any_eq_true]
  have h := vd_all (by omega) hv
  constructor
  · rintro ⟨p, hp, hx⟩
    have := h p hp
    refine ⟨p, hp, ?_⟩
    simp [run] at hx
    obtain ⟨a, ha, hx⟩ := hx
    unfold inP
    rw [decide_eq_true_eq]
    omega
  · rintro ⟨p, hp, hx⟩
    have := h p hp
    refine ⟨p, hp, ?_⟩
    unfold inP at hx
    rw [decide_eq_true_eq] at hx
    simp [run]
    exact ⟨((v : Int) - p.1).toNat, by omega, by omega⟩
theorem upd_one {wr : World} {b k : Nat} {F : Nat → Bool} {B : Bool} (h : SetAt wr b (fun v => decide (v < k) && F v)) (hk : k < 1001) (hB : F k = B) : SetAt (wr.setCell ⟨b, k, none⟩ (.bool B)) b (fun v => decide (v < k + 1) && F v) := by
  have h1 := h.put hk B
  have e : (fun u => if u = k then B else (decide (u < k) && F u)) = fun v => decide (v < k + 1) && F v := by
    funext u
    by_cases e : u = k
    · subst e; simp [hB]
    · have : (u < k + 1) = (u < k) := by rw [eq_iff_iff]; omega
      simp [e, this]
  rw [e] at h1
  exact h1
def bf (i f s : Bool) (x y : Bool) : Bool := (x && y && i) || (x && !y && f) || (!x && y && s)
set_option maxRecDepth 100000 in
set_option maxHeartbeats 4000000 in
theorem both_any (i f s : Bool) (h3 : (i = true ∧ f = false ∧ s = false) ∨ (i = true ∧ f = true ∧ s = true) ∨ (i = false ∧ f = true ∧ s = false)) (a b : List (Int × Int)) (A B : Option Addr) (c1 c2 : Nat) (w : World) (ha : Pairs w A a) (hb : Pairs w B b) :
    Calls Tryd.prog 47 #[.slice A a.length c1, .slice B b.length c2, .bool i, .bool f, .bool s] w (CombOk (bf i f s) a b w) := by
  have VA := Lib.hid (Valid_r_any a A c1 w ha)
  have VB := Lib.hid (fun w1 (h : Below w.heap.size w w1) => Valid_r_any b B c2 w1 (hb.over h))
  have z69 := zA
  unfold CombOk
  cases hva : vd 0 a with
  | false =>
    rw [hva] at VA
    simp only [Bool.false_and, Bool.false_eq_true, if_false]
    go_enter Tryd.func47, Tryd.ntmps47
    go_wp2_with (go_at_call 17; refine VA.out.mono ?_; rintro e w1 ⟨rfl, h⟩; have HB1 := Lib.hid h; clear h)
    exact bodyPost_ret (v := .tuple #[.slice none 0 0, .int .i64 2]) (by simp [results, Tryd.results47, go_sem]) rfl ⟨HB1.out, rfl⟩
  | true =>
    rw [hva] at VA
    cases hvb : vd 0 b with
    | false =>
      rw [hvb] at VB
      simp only [Bool.true_and, Bool.false_eq_true, if_false]
      go_enter Tryd.func47, Tryd.ntmps47
      go_wp2_with (first | (go_at_call 17; refine VA.out.mono ?_; rintro e w1 ⟨rfl, h⟩; have HB1 := Lib.hid h; clear h VA) | (go_at_call 17; refine (VB.out _ HB1.out).mono ?_; rintro e w2 ⟨rfl, h⟩; have HB2 := Lib.hid (HB1.out.trans (h.mono HB1.out.size)); clear h))
      exact bodyPost_ret (v := .tuple #[.slice none 0 0, .int .i64 2]) (by simp [results, Tryd.results47, go_sem]) rfl ⟨HB2.out, rfl⟩
    | true =>
      rw [hvb] at VB
      simp only [Bool.and_self, if_true]
      have TA := Lib.hid (fun w1 (h : Below w.heap.size w w1) => To_any a A c1 w1 (ha.over h) hva)
      have TB := Lib.hid (fun w1 (h : Below w.heap.size w w1) => To_any b B c2 w1 (hb.over h) hvb)
      have HVA := Lib.hid hva
      have HVB := Lib.hid hvb
      clear hva hvb ha hb
      go_enter Tryd.func47, Tryd.ntmps47
      go_wp2_with (first | (go_at_call 17; refine VA.out.mono ?_; rintro e w1 ⟨rfl, h⟩; have HB1 := Lib.hid h; clear h VA) | (go_at_call 17; refine (VB.out _ HB1.out).mono ?_; rintro e w2 ⟨rfl, h⟩; have HB2 := Lib.hid (HB1.out.trans (h.mono HB1.out.size)); clear h VB) | (go_at_call 96; refine (TA.out _ HB2.out).mono ?_; rintro e w3 ⟨rfl, h⟩; have HB3 := Lib.hid (HB2.out.trans (h.mono HB2.out.size)); clear h TA))
      go_at_call 96
      refine (TB.out _ HB3.out).mono ?_
      rintro e w4 ⟨rfl, h⟩
      have HB4 := Lib.hid (HB3.out.trans (h.mono HB3.out.size))
      clear h TB HB1 HB2 HB3
      dsimp only
      iterate 8 go_step
      refine wp_store_set (b := w4.heap.size) (p := fun _ => false) (Operand.tmp 12) (Operand.tmp 25) (inL (valsV a)) (heap_alloc2_old _ _ _) rfl rfl rfl ?_
      iterate 2 go_step
      refine wp_store_set (b := w4.heap.size + 1) (p := fun _ => false) (Operand.tmp 13) (Operand.tmp 27) (inL (valsV b)) (SetAt.apart (heap_alloc2_new _ _ _) _ (by omega)) rfl rfl rfl ?_
      have X1 : SetAt ((((w4.alloc (.cells (boolArr fun _ => false) 69)).alloc (.cells (boolArr fun _ => false) 69)).setRow w4.heap.size (boolArr (inL (valsV a)))).setRow (w4.heap.size + 1) (boolArr (inL (valsV b)))) w4.heap.size (inL (valsV a)) := SetAt.apart (SetAt.stored (p := fun _ => false) (heap_alloc2_old _ _ _) _) _ (by omega)
      have X2 : SetAt ((((w4.alloc (.cells (boolArr fun _ => false) 69)).alloc (.cells (boolArr fun _ => false) 69)).setRow w4.heap.size (boolArr (inL (valsV a)))).setRow (w4.heap.size + 1) (boolArr (inL (valsV b)))) (w4.heap.size + 1) (inL (valsV b)) := SetAt.stored (p := fun _ => false) (SetAt.apart (heap_alloc2_new _ _ _) _ (by omega)) _
      have X3 : ((((w4.alloc (.cells (boolArr fun _ => false) 69)).alloc (.cells (boolArr fun _ => false) 69)).setRow w4.heap.size (boolArr (inL (valsV a)))).setRow (w4.heap.size + 1) (boolArr (inL (valsV b)))).heap.size = w4.heap.size + 2 := by simp
      have X4 : Below w.heap.size w ((((w4.alloc (.cells (boolArr fun _ => false) 69)).alloc (.cells (boolArr fun _ => false) 69)).setRow w4.heap.size (boolArr (inL (valsV a)))).setRow (w4.heap.size + 1) (boolArr (inL (valsV b)))) := by
        have h4 := HB4.out.size
        exact Below.setRow (Below.setRow ((HB4.out.alloc h4 _).alloc (by simp; omega) _) _ _ h4) _ _ (by omega)
      generalize hW5 : ((((w4.alloc (.cells (boolArr fun _ => false) 69)).alloc (.cells (boolArr fun _ => false) 69)).setRow w4.heap.size (boolArr (inL (valsV a)))).setRow (w4.heap.size + 1) (boolArr (inL (valsV b)))) = W5 at *
      have HX := Lib.hid (And.intro X1 (And.intro X2 X4))
      have h4 := HB4.out.size
      clear X1 X2 X4 hW5 HB4
      obtain ⟨F, hF⟩ : ∃ F : Nat → Bool, F = fun v => bf i f s (inL (valsV a) v) (inL (valsV b) v) := ⟨_, rfl⟩
      have HF := Lib.hid hF
      clear hF
      go_wp2_with fail
      go_loopw [15] (fun j wr => ∃ k : Nat, k ≤ 1001 ∧ j = .int .i64 k ∧ SetAt wr w4.heap.size (inL (valsV a)) ∧ SetAt wr (w4.heap.size + 1) (inL (valsV b)) ∧ SetAt wr (w4.heap.size + 2) (fun v => decide (v < k) && F v) ∧ Below w.heap.size w wr) (fun j _ => 1001 - (intOf j).toNat)
      case atStart =>
        obtain ⟨X1, X2, X4⟩ := HX.out
        refine ⟨0, by omega, rfl, X1.below ((Below.refl _ W5).alloc (Nat.le_refl _) _) (by omega), X2.below ((Below.refl _ W5).alloc (Nat.le_refl _) _) (by omega), ?_, X4.alloc (by omega) _⟩
        have := heap_alloc_new W5 (.cells (boolArr fun _ => false) 69)
        rw [X3] at this
        rw [show (fun v => decide (v < 0) && F v) = fun _ => false by funext v; simp]
        exact this
      case round =>
        obtain ⟨k, hk, rfl, s1, s2, s3, hb⟩ := hrel
        by_cases hlt : k < 1001
        · have x1 := s1.cell hlt
          have x2 := s2.cell hlt
          have x3 := s3.cell hlt
          have x4 := s3.free k
          have z1 : (k : Int) ≤ 1000 := by omega
          have z2 : (0 : Int) ≤ (k : Int) := by omega
          have z3 : (k : Int) < 1001 := by omega
          have HH := Lib.hid (And.intro s1 (And.intro s2 (And.intro s3 hb)))
          have HFk := Lib.hid (show F k = bf i f s (inL (valsV a) k) (inL (valsV b) k) by rw [HF.out])
          clear s1 s2 s3 hb HX
          generalize inL (valsV a) k = xx at *
          generalize inL (valsV b) k = yy at *
          rcases h3 with ⟨rfl, rfl, rfl⟩ | ⟨rfl, rfl, rfl⟩ | ⟨rfl, rfl, rfl⟩ <;> go_wp2_with fail
          all_goals
            (go_roundw
             case rel =>
               obtain ⟨s1, s2, s3, hb⟩ := HH.out
               exact ⟨k + 1, by omega, by go_num, s1.other (by omega), s2.other (by omega), upd_one s3 hlt (by rw [HFk.out]; simp_all [bf]), hb.setCell (p := ⟨w4.heap.size + 2, k, none⟩) (by show w.heap.size ≤ w4.heap.size + 2; omega) _⟩
             case measure => simp [intOf]; omega)
        · obtain rfl : k = 1001 := by omega
          have HB := Lib.hid hb
          have s4 : SetAt wr (w4.heap.size + 2) F := by
            have : boolArr (fun v => decide (v < 1001) && F v) = boolArr F := boolArr_congr fun v hv => by simp [hv]
            unfold SetAt at s3 ⊢
            rw [this] at s3
            exact s3
          have EQ := Lib.hid (show addTo (combV (bf i f s) a b) = upTo F 1001 by
            unfold combV upTo
            rw [HF.out]
            simp only [inL_vals HVA.out, inL_vals HVB.out])
          have FR := Lib.hid (From_any F wr)
          clear hb s1 s2 s3 HX z69
          repeat (first | (refine wp_load_set (Operand.tmp 14) s4 rfl rfl ?_) | (go_at_call 52; refine FR.out.mono ?_; rintro e wz ⟨v, rfl, ho, hn, hb⟩; have HO := Lib.hid ho; have HN := Lib.hid hn; have HZ := Lib.hid (HB.out.trans (hb.mono HB.out.size)); clear ho hn hb) | go_step)
          go_wp2_with fail
          refine bodyPost_ret (v := .tuple #[v, .int .i64 0]) (by simp [results, Tryd.results47, go_sem]) rfl ⟨HZ.out, v, rfl, ?_⟩
          rw [EQ.out]
          exact ⟨ownsRow_lower HB.out.size HO.out, HN.out⟩
theorem Meet_r_any (a b : List (Int × Int)) (A B : Option Addr) (c1 c2 : Nat) (w : World) (ha : Pairs w A a) (hb : Pairs w B b) :
    Calls Tryd.prog 8 #[.slice A a.length c1, .slice B b.length c2] w (CombOk (fun p q => p && q) a b w) := by
  have C := both_any true false false (Or.inl ⟨rfl, rfl, rfl⟩) a b A B c1 c2 w ha hb
  rw [show bf true false false = fun p q => p && q by funext p q; cases p <;> cases q <;> rfl] at C
  have C2 := Lib.hid (C.mono (fun e w' h => CombOk.tup' h))
  clear C
  generalize CombOk (fun p q => p && q) a b w = Q at *
  go_enter Tryd.func8, Tryd.ntmps8
  go_wp2_with (go_at_call 47; refine C2.out.mono ?_; rintro e w1 ⟨v, x, rfl, hq⟩; have HQ := Lib.hid hq; clear hq)
  exact HQ.out
theorem Join_r_any (a b : List (Int × Int)) (A B : Option Addr) (c1 c2 : Nat) (w : World) (ha : Pairs w A a) (hb : Pairs w B b) :
    Calls Tryd.prog 11 #[.slice A a.length c1, .slice B b.length c2] w (CombOk (fun p q => p || q) a b w) := by
  have C := both_any true true true (Or.inr (Or.inl ⟨rfl, rfl, rfl⟩)) a b A B c1 c2 w ha hb
  rw [show bf true true true = fun p q => p || q by funext p q; cases p <;> cases q <;> rfl] at C
  have C2 := Lib.hid (C.mono (fun e w' h => CombOk.tup' h))
  clear C
  generalize CombOk (fun p q => p || q) a b w = Q at *
  go_enter Tryd.func11, Tryd.ntmps11
  go_wp2_with (go_at_call 47; refine C2.out.mono ?_; rintro e w1 ⟨v, x, rfl, hq⟩; have HQ := Lib.hid hq; clear hq)
  exact HQ.out
theorem Minus_r_any (a b : List (Int × Int)) (A B : Option Addr) (c1 c2 : Nat) (w : World) (ha : Pairs w A a) (hb : Pairs w B b) :
    Calls Tryd.prog 13 #[.slice A a.length c1, .slice B b.length c2] w (CombOk (fun p q => p && !q) a b w) := by
  have C := both_any false true false (Or.inr (Or.inr ⟨rfl, rfl, rfl⟩)) a b A B c1 c2 w ha hb
  rw [show bf false true false = fun p q => p && !q by funext p q; cases p <;> cases q <;> rfl] at C
  have C2 := Lib.hid (C.mono (fun e w' h => CombOk.tup' h))
  clear C
  generalize CombOk (fun p q => p && !q) a b w = Q at *
  go_enter Tryd.func13, Tryd.ntmps13
  go_wp2_with (go_at_call 47; refine C2.out.mono ?_; rintro e w1 ⟨v, x, rfl, hq⟩; have HQ := Lib.hid hq; clear hq)
  exact HQ.out
end Go.Proofs.YtlhfbhkfmkcnjaaDoor
