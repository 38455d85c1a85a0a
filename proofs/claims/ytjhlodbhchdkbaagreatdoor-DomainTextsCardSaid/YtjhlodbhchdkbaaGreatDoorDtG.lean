/-
  A domain's text read by the program: part by part.
-/
import Derived.Test.YtjhlodbhchdkbaaGreatDoorDtF
namespace Go.Proofs.YtjhlodbhchdkbaaGreatDoor
set_option linter.unusedSimpArgs false
set_option linter.unusedVariables false
open Go Go.RowKit Go.Shelf Go.Lib Go.Ev

attribute [local go_sem] Oper.semAt_some

abbrev capsOf (B : Nat) : Array Value := #[.pointer (some ⟨B + 1, 0, none⟩), .pointer (some ⟨B, 0, none⟩), .pointer (some ⟨B + 2, 0, none⟩)]
def capW (l : List UInt8) (w : World) : World := ((w.alloc (.cells #[.string (st l)] 9)).alloc (.cells #[.string (st [32])] 9)).alloc (.cells #[.int .i64 0] 3)
theorem splitSeq_any (l : List UInt8) (w : World) : Calls Tryz.prog 28 #[.string (st l), .string (st [32]), .int .i64 0] w fun e w' => e = .returned (.func (.func 45) #[] (capsOf w.heap.size)) ∧ w' = capW l w := by
  go_enter Tryz.func28, Tryz.ntmps28
  go_wp2_with fail
  go_ret
  exact ⟨rfl, rfl⟩
theorem SplitSeq_any (l : List UInt8) (w : World) : Calls Tryz.prog 18 #[.string (st l), .string (st [32])] w fun e w' => e = .returned (.func (.func 45) #[] (capsOf w.heap.size)) ∧ w' = capW l w := by
  have SP := Lib.hid (splitSeq_any l w)
  go_enter Tryz.func18, Tryz.ntmps18
  go_wp2_with (go_at_call 28; refine SP.out.mono ?_; rintro e w1 ⟨rfl, rfl⟩)
  go_ret
  exact ⟨rfl, rfl⟩
theorem capW_below (l : List UInt8) (w : World) : Below w.heap.size w (capW l w) := by
  unfold capW
  exact (((Below.refl _ w).alloc (Nat.le_refl _) _).alloc (by simp) _).alloc (by simp; omega) _
theorem capW_size (l : List UInt8) (w : World) : (capW l w).heap.size = w.heap.size + 3 := by simp [capW]
theorem capW_cap (l : List UInt8) (w : World) {m : Int} (hm : w.cell? ⟨3, 0, none⟩ = some (.int .i64 m)) : Cap (capW l w) w.heap.size l := by
  have e1 : (capW l w).heap[w.heap.size]? = some (.cells #[.string (st l)] 9 (0, 0)) := by
    unfold capW
    rw [Below.heap_alloc _ _ _ (by simp; omega), Below.heap_alloc _ _ _ (by simp)]
    exact World.alloc_heap_new w _
  have e2 : (capW l w).heap[w.heap.size + 1]? = some (.cells #[.string (st [32])] 9 (0, 0)) := by
    unfold capW
    rw [Below.heap_alloc _ _ _ (by simp)]
    have := World.alloc_heap_new (w.alloc (.cells #[.string (st l)] 9)) (.cells #[.string (st [32])] 9)
    rwa [World.size_alloc] at this
  have e3 : (capW l w).heap[w.heap.size + 2]? = some (.cells #[.int .i64 0] 3 (0, 0)) := by
    unfold capW
    have := World.alloc_heap_new ((w.alloc (.cells #[.string (st l)] 9)).alloc (.cells #[.string (st [32])] 9)) (.cells #[.int .i64 0] 3)
    rwa [World.size_alloc, World.size_alloc] at this
  exact ⟨e1, e2, e3, m, cell_over hm (capW_below l w)⟩
/-- ranges as cells -/
def cellsI : List (Int × Int) → List Value
  | [] => []
  | x :: r => .int .i64 x.1 :: .int .i64 x.2 :: cellsI r
theorem cellsI_snoc : ∀ (a : List (Int × Int)) (x : Int × Int), cellsI (a ++ [x]) = cellsI a ++ [.int .i64 x.1, .int .i64 x.2]
  | [], x => rfl
  | y :: a, x => by show _ :: _ :: cellsI (a ++ [x]) = _; rw [cellsI_snoc a x]; rfl
theorem cellsI_len : ∀ a : List (Int × Int), (cellsI a).length = a.length * 2
  | [] => rfl
  | y :: a => by show (cellsI a).length + 1 + 1 = (a.length + 1) * 2; rw [cellsI_len a]; omega
/-- what the program's Parse answers -/
def ParseRes (o : Option (List (Int × Int))) (base : Nat) (w : World) (e : Ending) (w' : World) : Prop :=
  (match o with
    | some d => ∃ v, e = .returned (.tuple #[v, .int .i64 0]) ∧ w'.ownsRow base 38 2 v d.length (cellsI d)
    | none => e = .returned (.tuple #[.slice none 0 0, .int .i64 3])) ∧ Below base w w'
theorem spl_facts : ∀ l : List UInt8, (spl l).length ≤ l.length + 1 ∧ ∀ p ∈ spl l, p.length ≤ l.length
  | [] => ⟨by simp [spl], fun p hp => by simp [spl] at hp; subst hp; simp⟩
  | b :: l => by
    obtain ⟨h1, h2⟩ := spl_facts l
    rw [spl]
    by_cases hb : b = 32
    · rw [if_pos hb]
      refine ⟨by simp; omega, fun p hp => ?_⟩
      rcases List.mem_cons.1 hp with rfl | hp
      · simp
      · have := h2 p hp; simp; omega
    · rw [if_neg hb]
      obtain ⟨q, qs, hq⟩ := spl_ne l
      rw [hq] at h1 h2 ⊢
      refine ⟨by simp at h1 ⊢; omega, fun p hp => ?_⟩
      rcases List.mem_cons.1 hp with rfl | hp
      · have := h2 q (by simp); simp; omega
      · have := h2 p (by simp [hp]); simp; omega
/-- a state of the loop -/
def PState (l : List UInt8) (g : Nat) (base : Nat) (k : Nat) (W : World) : Prop := ∃ (a : List (Int × Int)) (nx : Int) (v : Value), prs 0 (spl l) = (prs nx ((spl l).drop k)).map (a ++ ·) ∧ (0 ≤ nx ∧ nx ≤ 1002) ∧ a.length ≤ k ∧
  Boxed W g 22 (.slice none 0 0) ∧ Boxed W (g + 1) 24 (.int .i64 0) ∧ Boxed W (g + 2) 22 v ∧ W.ownsRow base 38 2 v a.length (cellsI a) ∧ Boxed W (g + 3) 3 (.int .i64 nx)
def PStop (l : List UInt8) (g : Nat) (W : World) : Prop := prs 0 (spl l) = none ∧ Boxed W g 22 (.slice none 0 0) ∧ Boxed W (g + 1) 24 (.int .i64 3)
theorem below_putObj {B k : Nat} (X : World) (o : Obj) (h : B ≤ k) : Below B X (X.putObj k o) := ⟨rfl, rfl, rfl, by simp [World.putObj], fun i hi => World.putObj_heap_other (by omega)⟩
theorem owns_belowX {w w' : World} {base size n : Nat} {e : TypeId} {v : Value} {xs : List Value} (h : w.ownsRow base e size v n xs) (k : Below w.heap.size w w') : w'.ownsRow base e size v n xs := by
  obtain ⟨h1, h2⟩ := h
  rcases h2 with h0 | ⟨g, cap, cur, hv, hb, hg, r⟩
  · exact ⟨h1, .inl h0⟩
  · exact ⟨h1, .inr ⟨g, cap, cur, hv, hb, (k.block g (Array.getElem?_eq_some_iff.1 hg).1).trans hg, r⟩⟩
theorem two_at (X : World) (t : TypeId) (a b : Value) : ∀ (j : Nat) z, [a, b][j]? = some z → (X.alloc (.cells #[a, b] t)).cell? ((⟨X.heap.size, 0, none⟩ : Addr).add j) = some z := by
  intro j z hj
  match j, hj with
  | 0, hj => simp at hj; subst hj; simp [Addr.add, World.cell?_alloc_new]
  | 1, hj => simp at hj; subst hj; simp [Addr.add, World.cell?_alloc_new]
theorem capKeep_below {B : Nat} {W W' : World} (h : Below W.heap.size W W') (hB : B + 3 ≤ W.heap.size) (hG : 3 < B := by omega) : capKeep B W W' := fun k hk => h.block k (by omega)
theorem cell2_0 {W : World} {g : Nat} {a b : Value} (h : W.heap[g]? = some (.cells #[a, b] 38 (0, 0))) : W.cell? ⟨g, 0, none⟩ = some a := by
  simp only [World.cell?, h]; rfl
theorem cell2_1 {W : World} {g : Nat} {a b : Value} (h : W.heap[g]? = some (.cells #[a, b] 38 (0, 0))) : W.cell? ⟨g, 1, none⟩ = some b := by
  simp only [World.cell?, h]; rfl
theorem two_one (a b : Int) : ∀ z ∈ [Value.int .i64 a, Value.int .i64 b], z.oneCell' = true := by
  intro z hz
  simp at hz
  rcases hz with rfl | rfl <;> rfl
theorem row_old {W W1 : World} {base n : Nat} {v : Value} {xs : List Value} (h : W.ownsRow base 38 2 v n xs) (hs : W.heap.size ≤ W1.heap.size) : ∀ k, v.ownBlock = some k → k < W1.heap.size := fun k e => Nat.lt_of_lt_of_le (h.lt k e).2 hs
theorem after_append {W2 w1 : World} {g r : Nat} {v v' : Value} {nx lo hi : Int} {m n : Nat} {xs ys : List Value} {q : List UInt8} {tmp : Obj}
    (x2 : Boxed W2 g 22 (.slice none 0 0)) (x3 : Boxed W2 (g + 1) 24 (.int .i64 0)) (x4 : Boxed W2 (g + 2) 22 v) (x5 : Boxed W2 (g + 3) 3 (.int .i64 nx))
    (br : W2.ownsRow g 38 2 v n xs) (hc : Cap W2 (g + 4) q) (R2 : W2.heap[r]? = some (.cells #[.int .i64 lo, .int .i64 hi] 38 (0, 0))) (hr : ∀ k, v.ownBlock = some k → k < r) (hs : g ≤ W2.heap.size) (hrg : g + 4 ≤ r)
    (hown' : w1.ownsRow g 38 2 v' m ys) (hgrow : (W2.alloc tmp).grownBy w1 v.ownBlock) (hG : 3 < g) :
    Boxed w1 (g + 2) 22 v ∧ Boxed (w1.setCell ⟨g + 2, 0, none⟩ v') (g + 3) 3 (.int .i64 nx) ∧ (w1.setCell ⟨g + 2, 0, none⟩ v').cell? ⟨r, 1, none⟩ = some (.int .i64 hi) ∧
      Boxed (w1.setCell ⟨g + 2, 0, none⟩ v') g 22 (.slice none 0 0) ∧ Boxed (w1.setCell ⟨g + 2, 0, none⟩ v') (g + 1) 24 (.int .i64 0) ∧ Boxed (w1.setCell ⟨g + 2, 0, none⟩ v') (g + 2) 22 v' ∧
      (w1.setCell ⟨g + 2, 0, none⟩ v').ownsRow g 38 2 v' m ys ∧ KeepsOthers W2 (w1.setCell ⟨g + 2, 0, none⟩ v') ∧ Below g W2 (w1.setCell ⟨g + 2, 0, none⟩ v') ∧ capKeep (g + 4) W2 (w1.setCell ⟨g + 2, 0, none⟩ v') := by
  obtain ⟨hv1, hv2, hr2, hk2, hb2⟩ := x4.appended (by decide) br hs (by omega) hown' hgrow
  have k2 := (x2.alloc tmp).kept hgrow (x2.not_row (by decide) br)
  have k3 := (x3.alloc tmp).kept hgrow (x3.not_row (by decide) br)
  have k5 := (x5.alloc tmp).kept hgrow (x5.not_row (by decide) br)
  have n1 : Boxed W2 (g + 4) 9 (.string (st q)) := hc.1
  have n2 : Boxed W2 (g + 4 + 1) 9 (.string (st [32])) := hc.2.1
  have n3 : Boxed W2 (g + 4 + 2) 3 (.int .i64 0) := hc.2.2.1
  have m1 := (n1.alloc tmp).kept hgrow (n1.not_row (by decide) br)
  have m2 := (n2.alloc tmp).kept hgrow (n2.not_row (by decide) br)
  have m3 := (n3.alloc tmp).kept hgrow (n3.not_row (by decide) br)
  have hrl : r < W2.heap.size := (Array.getElem?_eq_some_iff.1 R2).1
  have r1 : w1.heap[r]? = some (.cells #[.int .i64 lo, .int .i64 hi] 38 (0, 0)) := by
    rw [hgrow.block r (by simp; omega) (fun e => by have := hr r e.symm; omega), Below.heap_alloc _ _ _ (by omega)]
    exact R2
  refine ⟨hv1, k5.other (by omega) _, ?_, k2.other (by omega) _, k3.other (by omega) _, hv2, hr2, hk2, hb2, ?_⟩
  · refine cell2_1 (a := .int .i64 lo) ?_
    rw [set_other w1 v' (show r ≠ g + 2 by omega)]
    exact r1
  · rintro k (rfl | ⟨h1, h2⟩)
    · exact hb2.block _ hG
    · rw [set_other w1 v' (show k ≠ g + 2 by omega)]
      rcases (show k = g + 4 ∨ k = g + 4 + 1 ∨ k = g + 4 + 2 by omega) with rfl | rfl | rfl
      · exact m1.trans n1.symm
      · exact m2.trans n2.symm
      · exact m3.trans n3.symm
theorem keepsOf {W W' : World} (h : Below W.heap.size W W') : KeepsOthers W W' := ⟨h.size, fun k o hk _ => (h.block k (Array.getElem?_eq_some_iff.1 hk).1).trans hk⟩
theorem boxPut {W : World} {B k : Nat} {t : TypeId} {v : Value} (h : Boxed W B t v) (hk : B ≠ k) (o : Obj) : Boxed (W.putObj k o) B t v := (World.putObj_heap_other hk).trans h
theorem boxBelow {W W' : World} {B : Nat} {t : TypeId} {v : Value} (h : Boxed W B t v) (k : Below W.heap.size W W') : Boxed W' B t v := (k.block B h.lt).trans h
theorem capKeep_put {B k : Nat} (W : World) (o : Obj) (h1 : B + 3 ≤ k) (h2 : 3 < B) : capKeep B W (W.putObj k o) := fun i hi => World.putObj_heap_other (by omega)
theorem capKeep_alloc {B : Nat} (W : World) (o : Obj) (h1 : B + 3 ≤ W.heap.size) (h2 : 3 < B) : capKeep B W (W.alloc o) := fun i hi => Below.heap_alloc _ _ _ (by omega)
set_option maxRecDepth 100000 in
set_option maxHeartbeats 8000000 in
theorem Parse_in (n : Nat) (hn : 4 ≤ n) (l : List UInt8) (h1 : l.length ≤ 999000) (w : World) (hL : LibD w) (hG : 3 < w.heap.size) :
    CallsIn Fence.wide n Tryz.prog 7 #[.string (st l)] w (ParseRes (parseP l) w.heap.size w) := by
  have hn1 : 1 ≤ n := by omega
  obtain ⟨i0, hif, hz0, hz1, hz2⟩ := info_parts infoP
  refine callsIn_of_wp_marks Tryz.func7 rfl trivial ?_ rfl
  simp only [Tryz.ntmps7, List.size_toArray, List.length_cons, List.length_nil, Nat.reduceAdd, Nat.reduceSub, Array.replicate_succ, Array.replicate_zero, List.push_toArray, List.append_toArray, List.nil_append, List.cons_append]
  by_cases hd : l = [45]
  · subst hd
    have zb : ((st [45]).toList == [45]) = true := by
      rw [ByteArray.toList_eq, st_data]
      rfl
    have c2 : ((w.alloc (.cells #[.slice none 0 0] 22)).alloc (.cells #[.int .i64 0] 24)).cell? ⟨w.heap.size, 0, none⟩ = some (.slice none 0 0) := ((Boxed.new w 22 (.slice none 0 0)).alloc _).cell
    have c3 : ((w.alloc (.cells #[.slice none 0 0] 22)).alloc (.cells #[.int .i64 0] 24)).cell? ⟨w.heap.size + 1, 0, none⟩ = some (.int .i64 0) := by
      have := (Boxed.new (w.alloc (.cells #[.slice none 0 0] 22)) 24 (.int .i64 0)).cell
      rwa [World.size_alloc] at this
    gi_wp2
    refine ⟨.tuple #[.slice none 0 0, .int .i64 0], by simp [results, Tryz.results7, go_sem, c2, c3], ?_, ((Below.refl _ w).alloc (Nat.le_refl _) _).alloc (by simp) _⟩
    rw [show parseP [45] = some [] from rfl]
    exact ⟨_, rfl, World.ownsRow_nil _ _ _ _⟩
  · have zb : ((st l).toList == [45]) = false := by
      rw [ByteArray.toList_eq, st_data]
      simpa using hd
    have SQ := Lib.hid (fun w1 => callsIn_wide (n := n - 1).2 (SplitSeq_any l w1))
    have PQ := Lib.hid (show parseP l = prs 0 (spl l) from by unfold parseP; rw [if_neg hd])
    gi_wp2_with (refine ⟨trivial, ?_⟩; gi_at_call 18; refine (SQ.out _).mono ?_; rintro e w' ⟨rfl, rfl⟩)
    clear SQ
    have X2 : Boxed ((((w.alloc (.cells #[.slice none 0 0] 22)).alloc (.cells #[.int .i64 0] 24)).alloc (.cells #[.slice none 0 0] 22)).alloc (.cells #[.int .i64 0] 3)) w.heap.size 22 (.slice none 0 0) := (((Boxed.new w 22 (.slice none 0 0)).alloc _).alloc _).alloc _
    have X3 : Boxed ((((w.alloc (.cells #[.slice none 0 0] 22)).alloc (.cells #[.int .i64 0] 24)).alloc (.cells #[.slice none 0 0] 22)).alloc (.cells #[.int .i64 0] 3)) (w.heap.size + 1) 24 (.int .i64 0) := by
      have := ((Boxed.new (w.alloc (.cells #[.slice none 0 0] 22)) 24 (.int .i64 0)).alloc (.cells #[.slice none 0 0] 22)).alloc (.cells #[.int .i64 0] 3)
      rwa [World.size_alloc] at this
    have X4 : Boxed ((((w.alloc (.cells #[.slice none 0 0] 22)).alloc (.cells #[.int .i64 0] 24)).alloc (.cells #[.slice none 0 0] 22)).alloc (.cells #[.int .i64 0] 3)) (w.heap.size + 2) 22 (.slice none 0 0) := by
      have := (Boxed.new ((w.alloc (.cells #[.slice none 0 0] 22)).alloc (.cells #[.int .i64 0] 24)) 22 (.slice none 0 0)).alloc (.cells #[.int .i64 0] 3)
      rwa [World.size_alloc, World.size_alloc] at this
    have X5 : Boxed ((((w.alloc (.cells #[.slice none 0 0] 22)).alloc (.cells #[.int .i64 0] 24)).alloc (.cells #[.slice none 0 0] 22)).alloc (.cells #[.int .i64 0] 3)) (w.heap.size + 3) 3 (.int .i64 0) := by
      have := Boxed.new (((w.alloc (.cells #[.slice none 0 0] 22)).alloc (.cells #[.int .i64 0] 24)).alloc (.cells #[.slice none 0 0] 22)) 3 (.int .i64 0)
      rwa [World.size_alloc, World.size_alloc, World.size_alloc] at this
    have BV : Below w.heap.size w ((((w.alloc (.cells #[.slice none 0 0] 22)).alloc (.cells #[.int .i64 0] 24)).alloc (.cells #[.slice none 0 0] 22)).alloc (.cells #[.int .i64 0] 3)) := ((((Below.refl _ w).alloc (Nat.le_refl _) _).alloc (by simp) _).alloc (by simp; omega) _).alloc (by simp; omega) _
    have SV : ((((w.alloc (.cells #[.slice none 0 0] 22)).alloc (.cells #[.int .i64 0] 24)).alloc (.cells #[.slice none 0 0] 22)).alloc (.cells #[.int .i64 0] 3)).heap.size = w.heap.size + 4 := by simp
    generalize ((((w.alloc (.cells #[.slice none 0 0] 22)).alloc (.cells #[.int .i64 0] 24)).alloc (.cells #[.slice none 0 0] 22)).alloc (.cells #[.int .i64 0] 3)) = V at *
    have CW : Cap (capW l V) (w.heap.size + 4) l := by
      obtain ⟨⟨m, hm⟩, _⟩ := hL.over BV
      have := capW_cap l V hm
      rwa [SV] at this
    have BW : Below w.heap.size w (capW l V) := BV.trans ((capW_below l V).mono BV.size)
    have SW : (capW l V).heap.size = w.heap.size + 7 := by rw [capW_size, SV]
    have Y2 := boxBelow X2 (capW_below l V)
    have Y3 := boxBelow X3 (capW_below l V)
    have Y4 := boxBelow X4 (capW_below l V)
    have Y5 := boxBelow X5 (capW_below l V)
    clear X2 X3 X4 X5 BV SV
    generalize capW l V = W7 at *
    obtain ⟨f1, f2⟩ := spl_facts l
    refine range_till rfl hn1 (gf := 45) (lb := capsOf (w.heap.size + 4)) rfl trivial (enters_of Tryz.func45 (by kernel_rfl) rfl)
      (fun _ => rfl) (split_goes (n - 1) (by omega) (w.heap.size + 4) l (by omega) (by omega))
      ?hst (fun h k => h.trans k) (fun X k o hk _ => capKeep_put X o (by omega) (by omega))
      (fun pre W => PState l w.heap.size w.heap.size pre.length W ∧ (∃ q, Cap W (w.heap.size + 4) q) ∧ Below w.heap.size w W)
      (fun W => PStop l w.heap.size W ∧ Below w.heap.size w W)
      ?hIs ?hIb ?hXb ?hI0
      (fun x => { tmps := #[.string (st l), undef, .pointer (some ⟨w.heap.size, 0, none⟩), .pointer (some ⟨w.heap.size + 1, 0, none⟩), .pointer (some ⟨w.heap.size + 2, 0, none⟩), .pointer (some ⟨w.heap.size + 3, 0, none⟩), .string (st x), undef, undef, .string (st l), .bool false, .string (st l), .func (.func 45) #[] (capsOf (w.heap.size + 4)), .string (st x), undef, undef, undef, undef, undef, undef, undef, undef, undef, undef, undef, undef, undef, undef, undef, undef, undef, undef, undef, undef, undef], defers := [] }) ?assign ?body ?done ?stop
    case hst =>
      rintro X Y ⟨r, rfl⟩ k hk hk2
      exact set_other X _ (by omega)
    case hIs =>
      rintro pre X Y ⟨⟨a, nx, v, e1, e2, e3, b2, b3, b4, br, b5⟩, ⟨q, hc⟩, hb⟩ ⟨r, rfl⟩
      exact ⟨⟨a, nx, v, e1, e2, e3, b2.other (by omega) _, b3.other (by omega) _, b4.other (by omega) _, br.kept (grownBy_setCell' X _ _) (.inr ((show Boxed X (w.heap.size + 4) 9 _ from hc.1).not_row (by decide) br).symm), b5.other (by omega) _⟩, ⟨r, hc.put r (by omega)⟩, hb.setCell (p := ⟨w.heap.size + 4, 0, none⟩) (by show w.heap.size ≤ w.heap.size + 4; omega) _⟩
    case hIb =>
      rintro pre X k r o ⟨⟨a, nx, v, e1, e2, e3, b2, b3, b4, br, b5⟩, ⟨q, hc⟩, hb⟩ hk _ hx hnc
      exact ⟨⟨a, nx, v, e1, e2, e3, boxPut b2 (by omega) _, boxPut b3 (by omega) _, boxPut b4 (by omega) _, ownsRow_putObj br _ hx hnc, boxPut b5 (by omega) _⟩, ⟨q, hc.kept (capKeep_put X o (by omega) (by omega))⟩, hb.trans (below_putObj X o (by omega))⟩
    case hXb =>
      rintro X k r o ⟨⟨e1, b2, b3⟩, hb⟩ hk _ hx hnc
      exact ⟨⟨e1, boxPut b2 (by omega) _, boxPut b3 (by omega) _⟩, hb.trans (below_putObj X o (by omega))⟩
    case hI0 =>
      intro o1 o2 _ _
      have k1 := capKeep_alloc (B := w.heap.size + 4) W7 o1 (by omega) (by omega)
      have k2 := capKeep_alloc (B := w.heap.size + 4) (W7.alloc o1) o2 (by simp; omega) (by omega)
      have hc := CW.kept (k1.trans k2)
      exact ⟨⟨⟨[], 0, _, by simp, ⟨by omega, by omega⟩, Nat.le_refl _, (Y2.alloc _).alloc _, (Y3.alloc _).alloc _, (Y4.alloc _).alloc _, World.ownsRow_nil _ _ _ _, (Y5.alloc _).alloc _⟩, ⟨l, hc⟩, (BW.alloc BW.size _).alloc (by simp; omega) _⟩, hc⟩
    case assign =>
      intro l x W K hK
      gi_wp2
      exact hK
    case body =>
      rintro y pre x suf W hall ⟨⟨a, nx, v, e1, e2, e3, b2, b3, b4, br, b5⟩, ⟨q, hc⟩, hb⟩
      have hxl := f2 x (by rw [hall]; simp)
      have hdrop : (spl l).drop pre.length = x :: suf := by rw [hall, List.drop_left' rfl]
      have hlen : pre.length + suf.length + 1 ≤ 1000000 := by rw [hall, List.length_append, List.length_cons] at f1; omega
      rw [hdrop, prs] at e1
      have PR := Lib.hid (fun w1 (k : Below w.heap.size w w1) => (callsIn_wide (n := n - 1 - 1 - 1).2 (parseRange_any x (by omega) w1 (hL.over k))).inRound y)
      have HR := Lib.hid (fun (h : rgB x = true) => (rg_some h).1)
      have HF := Lib.hid (And.intro CW (And.intro BW (And.intro SW (And.intro Y2 (And.intro Y3 (And.intro Y4 Y5))))))
      have HD := Lib.hid (show (spl l).drop (pre ++ [x]).length = suf from by rw [List.length_append, List.length_singleton, ← List.drop_drop, hdrop]; rfl)
      clear CW BW Y2 Y3 Y4 Y5 f1 f2 hdrop hall hd zb hxl
      have g5 := b5.cell
      generalize rgV x = R at *
      obtain ⟨lo, hi⟩ := R
      simp only at e1
      cases hbx : rgB x with
      | false =>
        rw [hbx] at PR e1
        have E1 := Lib.hid (show prs 0 (spl l) = none from by rw [e1, if_neg (by rintro ⟨h, _⟩; cases h)]; rfl)
        clear e1
        gi_wp2_with (refine ⟨trivial, fun _ => by omega, ?_⟩; gi_at_call 19; refine (PR.out _ hb).mono ?_; rintro e W1 ⟨rfl, hb1⟩; have BW2 := Lib.hid (show Below W.heap.size W (W1.alloc (.cells #[.int .i64 lo, .int .i64 hi] 38)) from hb1.alloc hb1.size _); have x2 := Lib.hid ((boxBelow b2 hb1).alloc (.cells #[.int .i64 lo, .int .i64 hi] 38)); have x3 := Lib.hid ((boxBelow b3 hb1).alloc (.cells #[.int .i64 lo, .int .i64 hi] 38)); have x4 := Lib.hid ((boxBelow b4 hb1).alloc (.cells #[.int .i64 lo, .int .i64 hi] 38)); have x5 := Lib.hid ((boxBelow b5 hb1).alloc (.cells #[.int .i64 lo, .int .i64 hi] 38)); have c2 := x2.out.cell; have d2 := x2.out.frozen; have c3 := x3.out.cell; have d3 := x3.out.frozen; have c5 := x5.out.cell; clear hb1 g5)
        have K := keepsOf BW2.out
        refine ⟨(K.trans (KeepsOthers.setCell _ _ _)).trans (KeepsOthers.setCell _ _ _), ⟨E1.out, (x2.out.set _).other (by omega) _, (x3.out.other (by omega) _).set _⟩, ((hb.trans (BW2.out.mono hb.size)).setCell (p := ⟨w.heap.size, 0, none⟩) (Nat.le_refl _) _).setCell (p := ⟨w.heap.size + 1, 0, none⟩) (by show w.heap.size ≤ w.heap.size + 1; omega) _⟩
      | true =>
        have HI := HR.out hbx
        rw [hbx] at PR e1
        by_cases hnx : nx ≤ lo
        · rw [if_pos ⟨rfl, hnx⟩] at e1
          have z1 : ¬ lo < nx := by omega
          have hCB : w.heap.size + 4 + 3 ≤ W.heap.size := by have := hc.2.2.1; have := (Array.getElem?_eq_some_iff.1 this).1; omega
          have hCS : w.heap.size + 4 + 3 ≤ W.heap.size := hCB
          have hGB : 3 < w.heap.size + 4 := by omega
          have ZA := Lib.hid (show a.length + 1 ≤ maxLen ∧ (a.length + 1) * 16 ≤ 140737488355328 from ⟨by unfold maxLen; omega, by omega⟩)
          have zh := HI.2.2
          have zl := HI.2.1
          have zm := HI.1
          simp only at zh zl zm
          have zw : wrap64 (hi + 2) = hi + 2 := by unfold wrap64; omega
          gi_wp2_with (first | (refine ⟨trivial, fun _ => by omega, ?_⟩; gi_at_call 19; refine (PR.out _ hb).mono ?_; rintro e W1 ⟨rfl, hb1⟩; have hb1' := hb1; have BW2 := Lib.hid (show Below W.heap.size W (W1.alloc (.cells #[.int .i64 lo, .int .i64 hi] 38)) from hb1.alloc hb1.size _); have x2 := Lib.hid ((boxBelow b2 hb1).alloc (.cells #[.int .i64 lo, .int .i64 hi] 38)); have x3 := Lib.hid ((boxBelow b3 hb1).alloc (.cells #[.int .i64 lo, .int .i64 hi] 38)); have x4 := Lib.hid ((boxBelow b4 hb1).alloc (.cells #[.int .i64 lo, .int .i64 hi] 38)); have x5 := Lib.hid ((boxBelow b5 hb1).alloc (.cells #[.int .i64 lo, .int .i64 hi] 38)); have c2 := x2.out.cell; have d2 := x2.out.frozen; have c3 := x3.out.cell; have d3 := x3.out.frozen; have c5 := x5.out.cell; clear hb1 g5; have BR := Lib.hid ((owns_belowX br hb1').alloc (.cells #[.int .i64 lo, .int .i64 hi] 38)); have hc2 := Lib.hid (hc.kept ((capKeep_below hb1' hCB).trans (capKeep_alloc W1 (.cells #[.int .i64 lo, .int .i64 hi] 38) (Nat.le_trans hCS hb1'.size) hGB))); have R2 := Lib.hid (show (W1.alloc (.cells #[.int .i64 lo, .int .i64 hi] 38)).heap[W1.heap.size]? = some (.cells #[.int .i64 lo, .int .i64 hi] 38 (0, 0)) from World.alloc_heap_new W1 _); have LW := Lib.hid hb1'.size; have c4 := x4.out.cell; have r0 := cell2_0 R2.out; have r1 := cell2_1 R2.out; clear hb1') | (gi_at_builtin; refine wpListIn_append_own _ rfl _ _ 22 rfl w.heap.size 38 i0 (.agg #[.int .i64 0, .int .i64 0]) 2 16 Tryz.underlying22 hif hz0 hz1 hz2 rfl (by decide) _ a.length (cellsI a) (by go_simp) (BR.out.alloc _) ⟨(W1.alloc (.cells #[.int .i64 lo, .int .i64 hi] 38)).heap.size, 0, none⟩ 1 1 [.int .i64 lo, .int .i64 hi] (by go_simp) rfl (two_at _ _ _ _) (two_one lo hi) ZA.out.1 ZA.out.2 (by have := LW.out; have := hb.size; simp; omega) ?_; intro v' w1 hown' hgrow _; obtain ⟨g', cap', rfl⟩ := ownsRow_succ hown'; have AF := Lib.hid (after_append x2.out x3.out x4.out x5.out BR.out hc2.out R2.out (row_old br LW.out) (by have := LW.out; have := hb.size; simp; omega) (by have := LW.out; omega) hown' hgrow hG); have y4 := AF.out.1.cell; have q4 := AF.out.1.frozen; have y5 := AF.out.2.1.cell; have q5 := AF.out.2.1.frozen; have yr := AF.out.2.2.1; clear c2 c3 c4 c5 d2 d3 r0 r1))
          obtain ⟨a1, a2, a3, a4, a5, a6, a7, a8, a9, a10⟩ := AF.out
          have kc := ((capKeep_below BW2.out hCB hGB).trans a10).trans (show capKeep (w.heap.size + 4) _ ((w1.setCell ⟨w.heap.size + 2, 0, none⟩ (.slice (some ⟨g', 0, none⟩) (a.length + 1) cap')).setCell ⟨w.heap.size + 3, 0, none⟩ (.int .i64 (hi + 2))) from fun k hk => set_other _ _ (by omega))
          refine ⟨((keepsOf BW2.out).trans a8).trans (KeepsOthers.setCell _ _ _), kc, ⟨a ++ [(lo, hi)], hi + 2, _, ?_, ⟨by omega, by omega⟩, by simp; omega, a4.other (by omega) _, a5.other (by omega) _, a6.other (by omega) _, ?_, a2.set _⟩, ⟨q, hc.kept kc⟩, (hb.trans ((BW2.out.mono hb.size).trans a9)).setCell (p := ⟨w.heap.size + 3, 0, none⟩) (by show w.heap.size ≤ w.heap.size + 3; omega) _⟩
          · rw [show pre.length + 1 = (pre ++ [x]).length by simp, HD.out, e1, Option.map_map]
            congr 1
            funext z
            simp
          · rw [cellsI_snoc, List.length_append]
            exact a7.kept (grownBy_setCell' _ _ _) (.inr (a2.not_row (by decide) a7).symm)
        · have E1 := Lib.hid (show prs 0 (spl l) = none from by rw [e1, if_neg (by rintro ⟨_, h⟩; exact hnx h)]; rfl)
          have z1 : lo < nx := by omega
          clear e1
          gi_wp2_with (refine ⟨trivial, fun _ => by omega, ?_⟩; gi_at_call 19; refine (PR.out _ hb).mono ?_; rintro e W1 ⟨rfl, hb1⟩; have BW2 := Lib.hid (show Below W.heap.size W (W1.alloc (.cells #[.int .i64 lo, .int .i64 hi] 38)) from hb1.alloc hb1.size _); have x2 := Lib.hid ((boxBelow b2 hb1).alloc (.cells #[.int .i64 lo, .int .i64 hi] 38)); have x3 := Lib.hid ((boxBelow b3 hb1).alloc (.cells #[.int .i64 lo, .int .i64 hi] 38)); have x4 := Lib.hid ((boxBelow b4 hb1).alloc (.cells #[.int .i64 lo, .int .i64 hi] 38)); have x5 := Lib.hid ((boxBelow b5 hb1).alloc (.cells #[.int .i64 lo, .int .i64 hi] 38)); have c2 := x2.out.cell; have d2 := x2.out.frozen; have c3 := x3.out.cell; have d3 := x3.out.frozen; have c5 := x5.out.cell; clear hb1 g5)
          have K := keepsOf BW2.out
          refine ⟨(K.trans (KeepsOthers.setCell _ _ _)).trans (KeepsOthers.setCell _ _ _), ⟨E1.out, (x2.out.set _).other (by omega) _, (x3.out.other (by omega) _).set _⟩, ((hb.trans (BW2.out.mono hb.size)).setCell (p := ⟨w.heap.size, 0, none⟩) (Nat.le_refl _) _).setCell (p := ⟨w.heap.size + 1, 0, none⟩) (by show w.heap.size ≤ w.heap.size + 1; omega) _⟩
    case done =>
      rintro D W hD ⟨⟨a, nx, v, e1, e2, e3, b2, b3, b4, br, b5⟩, ⟨q, hc⟩, hb⟩ hK
      rw [List.drop_length, prs] at e1
      have E1 := Lib.hid (show parseP l = some a from by rw [PQ.out, e1]; simp)
      obtain ⟨G, cap, rfl⟩ : ∃ G cap, v = .slice G a.length cap := by
        rcases br.2 with ⟨h0, hz⟩ | ⟨g, cap, cur, hv, _⟩
        · exact ⟨none, 0, by rw [h0, hz]⟩
        · exact ⟨_, cap, hv⟩
      have c2 := b2.cell
      have d2 := b2.frozen
      have c3 := b3.cell
      have d3 := b3.frozen
      have c4 := b4.cell
      have SW' := SW
      clear e1 SW CW BW Y2 Y3 Y4 Y5 f1 f2 hd zb
      gi_wp2
      have x2 := (b2.set (.slice G a.length cap)).other (show w.heap.size ≠ w.heap.size + 1 by omega) (.int .i64 0)
      have x3 := (b3.other (show w.heap.size + 1 ≠ w.heap.size by omega) (.slice G a.length cap)).set (.int .i64 0)
      have hK' : ((W.setCell ⟨w.heap.size, 0, none⟩ (.slice G a.length cap)).setCell ⟨w.heap.size + 1, 0, none⟩ (.int .i64 0)).heap[D]? = some (.deferred (some [])) := by
        rw [set_other _ _ (show D ≠ w.heap.size + 1 by omega), set_other _ _ (show D ≠ w.heap.size by omega)]
        exact hK
      refine ⟨by simp, .inl ⟨_, _, rfl, run_takeDeferred hK', ?_⟩⟩
      have c2' := (boxPut x2 (show w.heap.size ≠ D by omega) (.deferred none)).cell
      have c3' := (boxPut x3 (show w.heap.size + 1 ≠ D by omega) (.deferred none)).cell
      refine ⟨.tuple #[.slice G a.length cap, .int .i64 0], by simp [results, Tryz.results7, go_sem, c2', c3'], ?_⟩
      rw [E1.out]
      refine ⟨⟨_, rfl, ?_⟩, ((hb.setCell (p := ⟨w.heap.size, 0, none⟩) (Nat.le_refl _) _).setCell (p := ⟨w.heap.size + 1, 0, none⟩) (by show w.heap.size ≤ w.heap.size + 1; omega) _).trans (below_putObj _ _ (by omega))⟩
      have r1 := br.kept (grownBy_setCell' W w.heap.size (.slice G a.length cap)) (.inr (b2.not_row (by decide) br).symm)
      have r2 := r1.kept (grownBy_setCell' _ (w.heap.size + 1) (.int .i64 0)) (.inr ((b3.other (show w.heap.size + 1 ≠ w.heap.size by omega) (.slice G a.length cap)).not_row (by decide) r1).symm)
      exact ownsRow_putObj r2 _ hK' rfl
    case stop =>
      rintro D W hD ⟨⟨e1, b2, b3⟩, hb⟩ hK
      have E1 := Lib.hid (show parseP l = none from by rw [PQ.out, e1])
      clear e1
      gi_wp2
      refine ⟨by simp, .inl ⟨_, _, rfl, run_takeDeferred hK, ?_⟩⟩
      have c2' := (boxPut b2 (show w.heap.size ≠ D by omega) (.deferred none)).cell
      have c3' := (boxPut b3 (show w.heap.size + 1 ≠ D by omega) (.deferred none)).cell
      refine ⟨.tuple #[.slice none 0 0, .int .i64 3], by simp [results, Tryz.results7, go_sem, c2', c3'], ?_⟩
      rw [E1.out]
      exact ⟨rfl, hb.trans (below_putObj _ _ (by omega))⟩
end Go.Proofs.YtjhlodbhchdkbaaGreatDoor
