/-
  The program's list of a domain's numbers is the document's.
-/
import Derived.Test.YtlhfbhkfmkcnjaaDoorDsU
import Derived.Test.YtlhfbhkfmkcnjaaDoorDsO
namespace Go.Proofs.YtlhfbhkfmkcnjaaDoor
open Go Go.RowKit Go.Shelf Go.Ev

theorem sorted_eq : ∀ {l m : List Int}, l.Pairwise (· < ·) → m.Pairwise (· < ·) → (∀ x, x ∈ l ↔ x ∈ m) → l = m
  | [], [], _, _, _ => rfl
  | [], y :: m, _, _, h => absurd ((h y).2 (by simp)) (by simp)
  | x :: l, [], _, _, h => absurd ((h x).1 (by simp)) (by simp)
  | x :: l, y :: m, hl, hm, h => by
    have l1 := List.pairwise_cons.1 hl
    have m1 := List.pairwise_cons.1 hm
    have e : x = y := by
      have a1 := (h x).1 (by simp)
      have a2 := (h y).2 (by simp)
      rcases List.mem_cons.1 a1 with a1 | a1
      · exact a1
      · rcases List.mem_cons.1 a2 with a2 | a2
        · exact a2.symm
        · have := m1.1 x a1; have := l1.1 y a2; omega
    subst e
    rw [sorted_eq l1.2 m1.2 fun z => ?_]
    have hz := h z
    simp only [List.mem_cons] at hz
    constructor
    · intro hzl
      rcases hz.1 (Or.inr hzl) with rfl | h2
      · have := l1.1 z hzl; omega
      · exact h2
    · intro hzm
      rcases hz.2 (Or.inr hzm) with rfl | h2
      · have := m1.1 z hzm; omega
      · exact h2
theorem vals_sorted {n : Int} {d : List (Int × Int)} (h0 : 0 ≤ n) (h : vd n d = true) : (vals d).Pairwise (· < ·) := by
  induction d generalizing n with
  | nil => simp [vals]
  | cons y r ih =>
    obtain ⟨a, b⟩ := y
    simp only [vd, Bool.and_eq_true, decide_eq_true_eq] at h
    have hr := vd_all (n := b + 2) (by omega) h.2
    have i2 := ih (n := b + 2) (by omega) h.2
    have e : vals ((a, b) :: r) = run a b ++ vals r := rfl
    rw [e, List.pairwise_append]
    refine ⟨?_, i2, ?_⟩
    · unfold run
      rw [List.pairwise_map]
      exact List.pairwise_lt_range.imp (fun {x y} hxy => by omega)
    · intro x hx y hy
      simp [run] at hx
      obtain ⟨t, ht, rfl⟩ := hx
      obtain ⟨p, hp, hy⟩ := List.mem_flatMap.1 hy
      have := hr p hp
      simp [run] at hy
      obtain ⟨u, hu, rfl⟩ := hy
      omega
theorem vals_filter {d : List (Int × Int)} (hv : vd 0 d = true) : ((List.range 1001).filter fun (v : Nat) => d.any (inP (v : Int))).map (fun (v : Nat) => (v : Int)) = vals d := by
  refine sorted_eq ?_ (vals_sorted (by omega) hv) fun x => ?_
  · rw [List.pairwise_map]
    exact (List.pairwise_lt_range.filter _).imp (fun {x y} hxy => by omega)
  · have hr := (valsV_range hv).2
    have hi := @inL_vals d hv
    unfold valsV at hr hi
    rw [if_pos hv] at hr hi
    simp only [List.mem_map, List.mem_filter, List.mem_range]
    constructor
    · rintro ⟨v, ⟨h1, h2⟩, rfl⟩
      rw [← hi v] at h2
      exact List.contains_iff_mem.1 h2
    · intro hx
      have h3 := hr x hx
      refine ⟨x.toNat, ⟨by omega, ?_⟩, by omega⟩
      rw [← hi]
      unfold inL
      rw [List.contains_iff_mem, show ((x.toNat : Nat) : Int) = x by omega]
      exact hx
theorem numCells_map (l : List Nat) : numCells l = (l.map fun (v : Nat) => (v : Int)).map (Value.int .i64) := by simp [numCells]
set_option maxHeartbeats 4000000 in
theorem Collect_any (Bn sb so : Nat) (ws : List Nat) (w : World) (hBn : Bn < w.heap.size) (hsb : sb < w.heap.size) (hc : w.cell? ⟨Bn, 0, none⟩ = some (.pointer (some ⟨sb, so, none⟩))) (hW : WordsAt w sb so ws) (hT : TabIn w) :
    Calls Tryd.prog 54 #[.func (.func 99) #[] #[.pointer (some ⟨Bn, 0, none⟩)]] w fun e w' => ∃ G cap, e = .returned (.slice G (allBits 0 ws).length cap) ∧ w'.ownsRow w.heap.size 3 1 (.slice G (allBits 0 ws).length cap) (allBits 0 ws).length (numCells (allBits 0 ws)) ∧ Below w.heap.size w w' := by
  have AS := Lib.hid (callsIn_wide.1 (appendSeq_in 4 (Nat.le_refl _) Bn sb so ws w hBn hsb hc hW hT))
  clear hc hW hT
  generalize numCells (allBits 0 ws) = C at *
  generalize (allBits 0 ws).length = n at *
  go_enter Tryd.func54, Tryd.ntmps54
  go_wp2_with (go_at_call 98; refine AS.out.mono ?_; rintro e wz ⟨G, cap, rfl, ho, hb⟩; have HO := Lib.hid ho; have HB := Lib.hid hb; clear ho hb)
  go_ret
  exact ⟨G, cap, rfl, HO.out, HB.out⟩
theorem wv16Vals (x0 x1 x2 x3 x4 x5 x6 x7 x8 x9 x10 x11 x12 x13 x14 x15 : Nat) : wv [x0, x1, x2, x3, x4, x5, x6, x7, x8, x9, x10, x11, x12, x13, x14, x15] = #[.int .u64 (x0 : Nat), .int .u64 (x1 : Nat), .int .u64 (x2 : Nat), .int .u64 (x3 : Nat), .int .u64 (x4 : Nat), .int .u64 (x5 : Nat), .int .u64 (x6 : Nat), .int .u64 (x7 : Nat), .int .u64 (x8 : Nat), .int .u64 (x9 : Nat), .int .u64 (x10 : Nat), .int .u64 (x11 : Nat), .int .u64 (x12 : Nat), .int .u64 (x13 : Nat), .int .u64 (x14 : Nat), .int .u64 (x15 : Nat)] := rfl
attribute [local go_sem] wv16Vals
set_option maxHeartbeats 8000000 in
theorem Values_p_any (d : List (Int × Int)) (A : Option Addr) (c : Nat) (w : World) (ha : Pairs w A d) (hT : TabIn w) :
    Calls Tryd.prog 19 #[.slice A d.length c] w fun e w' => ∃ G cap, e = .returned (.slice G (valsV d).length cap) ∧ w'.ownsRow w.heap.size 3 1 (.slice G (valsV d).length cap) (valsV d).length ((valsV d).map (Value.int .i64)) ∧ Below w.heap.size w w' := by
  have VA := Lib.hid (Valid_p_any d A c w ha)
  cases hva : vd 0 d with
  | false =>
    rw [hva] at VA
    have e : valsV d = [] := by unfold valsV; rw [hva]; rfl
    rw [e]
    go_enter Tryd.func19, Tryd.ntmps19
    go_wp2_with (go_at_call 16; refine VA.out.mono ?_; rintro e w1 ⟨rfl, h⟩; have HB1 := Lib.hid h; clear h)
    go_ret
    exact ⟨none, 0, rfl, World.ownsRow_nil _ _ _ _, HB1.out⟩
  | true =>
    rw [hva] at VA
    have SA := Lib.hid (fun w1 (h : Below w.heap.size w w1) => setOf_any d A c w1 (ha.over h) hva)
    have HVA := Lib.hid hva
    have HT := Lib.hid hT
    have EV := Lib.hid (show valsV d = vals d by unfold valsV; rw [if_pos hva])
    clear hva hT ha
    go_enter Tryd.func19, Tryd.ntmps19
    go_wp2_with (first | (go_at_call 16; refine VA.out.mono ?_; rintro e w1 ⟨rfl, h⟩; have HB1 := Lib.hid h; clear h VA) | (go_at_call 53; refine (SA.out _ HB1.out).mono ?_; rintro e w2 ⟨ws, rfl, l1, l2, l3, h⟩; have HB2 := Lib.hid (HB1.out.trans (h.mono HB1.out.size)); have HL := Lib.hid (And.intro l2 l3); clear h SA l2 l3; obtain ⟨x0, x1, x2, x3, x4, x5, x6, x7, x8, x9, x10, x11, x12, x13, x14, x15, rfl⟩ := sixteen l1))
    refine (callsIn_wide.1 (all_in 4 _ _)).mono ?_
    rintro e w' ⟨rfl, rfl⟩
    obtain ⟨ws, hws⟩ : ∃ ws : List Nat, ws = [x0, x1, x2, x3, x4, x5, x6, x7, x8, x9, x10, x11, x12, x13, x14, x15] := ⟨_, rfl⟩
    have hwv := wv16Vals x0 x1 x2 x3 x4 x5 x6 x7 x8 x9 x10 x11 x12 x13 x14 x15
    rw [← hws] at hwv HL l1
    have k1 : ((w2.alloc (.cells (wv ws) 66)).alloc (.cells #[.pointer (some ⟨w2.heap.size, 0, none⟩)] 115)).heap[w2.heap.size]? = some (.cells (wv ws) 66 (0, 0)) := alloc_old (alloc_new _ _)
    have CO := Collect_any (w2.heap.size + 1) w2.heap.size 0 ws ((w2.alloc (.cells (wv ws) 66)).alloc (.cells #[.pointer (some ⟨w2.heap.size, 0, none⟩)] 115)) (by simp) (by simp; omega) (by
        have := alloc_new (w2.alloc (.cells (wv ws) 66)) (.cells #[.pointer (some ⟨w2.heap.size, 0, none⟩)] 115)
        rw [World.size_alloc] at this
        simp only [World.cell?, this]
        rfl)
      ⟨l1, HL.out.1, fun j hj => by
        have := wv_get hj
        simp [World.cell?, k1, this]⟩
      ((HT.out.below HB2.out HT.out.lt).below (((Below.refl _ w2).alloc (Nat.le_refl _) _).alloc (by simp) _) (HT.out.below HB2.out HT.out.lt).lt)
    have hab : allBits 0 ws = (List.range 1001).filter fun (v : Nat) => d.any (inP (v : Int)) := by
      rw [allBits_all ws l1 HL.out.1, range_cut fun v h4 h5 => by rw [HL.out.2 v h5]; exact any_far HVA.out h4]
      exact List.filter_congr fun v hv => HL.out.2 v (by have := List.mem_range.1 hv; omega)
    have hnc : numCells (allBits 0 ws) = (valsV d).map (Value.int .i64) := by rw [numCells_map, hab, vals_filter HVA.out, EV.out]
    have hnl : (allBits 0 ws).length = (valsV d).length := by rw [EV.out, ← vals_filter HVA.out, hab, List.length_map]
    rw [hnc, hnl, hwv] at CO
    have C2 := Lib.hid CO
    have HS := HB2.out.size
    have bel : ∀ o1 o2, Below w.heap.size w ((w2.alloc o1).alloc o2) := fun o1 o2 => (HB2.out.alloc HS _).alloc (by simp; omega) _
    have BEL := Lib.hid bel
    clear CO hnc hnl hab k1 hwv hws HL l1 HT HVA EV bel
    simp only [World.size_alloc]
    go_wp2_with (go_at_call 54; refine C2.out.mono ?_; rintro e w3 ⟨G, cap, rfl, ho, hb⟩; have HO := Lib.hid ho; have HB := Lib.hid hb; clear ho hb)
    go_ret
    exact ⟨G, cap, rfl, ownsRow_lower (BEL.out _ _).size HO.out, (BEL.out _ _).trans (HB.out.mono (BEL.out _ _).size)⟩
end Go.Proofs.YtlhfbhkfmkcnjaaDoor
