/-
  What stands at a place; the sum of products.
-/
import Derived.Test.YtpejolnjnkcolaaDoorHpA
import Derived.Test.YtpejolnjnkcolaaDoorDmD
import Derived.Test.YtpejolnjnkcolaaDoorDmE
import Derived.Deep.RegionWith
import Derived.RangeFuncRecord
namespace Go.Proofs.YtpejolnjnkcolaaDoor
open Go Go.RowKit

/-- what is known of places and values -/
structure Pl (w : World) (A D : Option Addr) (vs us : List Int) : Prop where
  a : Ints w A vs
  d : Ints w D us
  r : ∀ j (hj : j < vs.length), 0 ≤ vs[j] ∧ vs[j] < us.length
theorem Pl.over {w w' : World} {A D : Option Addr} {vs us : List Int} (h : Pl w A D vs us) (hb : Below w.heap.size w w') : Pl w' A D vs us := ⟨h.a.over hb, h.d.over hb, h.r⟩
theorem nth_pick {vs us : List Int} {k : Nat} (hk : k < vs.length) : nthI (pick vs us) k = nthI us (vs[k]).toNat := by
  simp [nthI, pick, List.getD_eq_getElem?_getD, List.getElem?_eq_getElem hk]
set_option maxHeartbeats 1000000 in
theorem at_any (k : Nat) (vb pb : Nat) (A D : Option Addr) (vs us : List Int) (c1 c3 : Nat) (w : World) (h : Pl w A D vs us) (hk : k < vs.length) (g1 : w.cell? ⟨vb, 0, none⟩ = some (.slice D us.length c3)) (g2 : w.cell? ⟨pb, 1, none⟩ = some (.slice A vs.length c1)) :
    Calls Tryd.prog 63 #[.int .i64 k, .pointer (some ⟨vb, 0, none⟩), .pointer (some ⟨pb, 0, none⟩)] w fun e w' => e = .returned (.int .i64 (nthI (pick vs us) k)) ∧ Below w.heap.size w w' := by
  obtain ⟨ha, hd, hr⟩ := h
  obtain ⟨r1, r2⟩ := hr k hk
  rw [nth_pick hk]
  obtain ⟨b1, o1, rfl, hb1, f1⟩ := ha.2.2 (by omega)
  have x1 := f1 k hk
  obtain ⟨q, hq⟩ : ∃ q : Nat, vs[k] = q := ⟨vs[k].toNat, by omega⟩
  rw [hq] at x1 r1 r2 ⊢
  obtain ⟨b2, o2, rfl, hb2, f2⟩ := hd.2.2 (by omega)
  have x2 := f2 q (by omega)
  have e : nthI us (q : Int).toNat = us[q]'(by omega) := by simp [nthI, List.getD_eq_getElem?_getD, List.getElem?_eq_getElem (show q < us.length by omega)]
  rw [e]
  generalize us[q]'(by omega) = u at *
  have z1 : (k : Int) < (vs.length : Int) := by omega
  have z2 : (0 : Int) ≤ (k : Int) := by omega
  clear f1 f2 hq e ha hd hr
  go_enter Tryd.func63, Tryd.ntmps63
  go_wp2_with fail
  go_quiet (fail)
  go_wp2_with fail
  go_ret
  exact ⟨rfl, below_drewN (Below.refl _ _) _⟩

def part (cs us : List Int) (k : Nat) : Int := psum (fun i => cs.getD i 0 * us.getD i 0) k
theorem part_all (cs us : List Int) : part cs us us.length = dot cs us := rfl
theorem term_bound {cs us : List Int} (hl : us.length ≤ cs.length) (hc : ∀ x ∈ cs, -1000000 ≤ x ∧ x ≤ 1000000) (hr : ∀ x ∈ us, -9223372036854775808 ≤ x ∧ x ≤ 9223372036854775807) : ∀ i, i < us.length → -9223372036854775808000000 ≤ cs.getD i 0 * us.getD i 0 ∧ cs.getD i 0 * us.getD i 0 ≤ 9223372036854775808000000 := fun i hi => by
  have h1 := hc (cs.getD i 0) (by rw [List.getD_eq_getElem?_getD, List.getElem?_eq_getElem (by omega)]; exact List.getElem_mem _)
  have h2 := hr (us.getD i 0) (by rw [List.getD_eq_getElem?_getD, List.getElem?_eq_getElem hi]; exact List.getElem_mem _)
  have := mul_bound (A := 1000000) (B := 9223372036854775808) h1 (b := us.getD i 0) (by omega)
  omega
theorem part_bound {cs us : List Int} (hl : us.length ≤ cs.length) (hc : ∀ x ∈ cs, -1000000 ≤ x ∧ x ≤ 1000000) (hr : ∀ x ∈ us, -9223372036854775808 ≤ x ∧ x ≤ 9223372036854775807) (hn : us.length ≤ 100) : ∀ k, k ≤ us.length → wBound (part cs us k) := fun k hk => by
  have := psum_bound (g := fun i => cs.getD i 0 * us.getD i 0) (B := 9223372036854775808000000) k fun i hi => term_bound hl hc hr i (by omega)
  unfold wBound part
  omega
theorem two_set {w : World} {b : Nat} {t : TypeId} {a0 a1 u0 u1 : Value} (h : w.heap[b]? = some (.cells #[a0, a1] t (0, 0))) : ((w.setCell ⟨b, 0, none⟩ u0).setCell ⟨b, 1, none⟩ u1).heap[b]? = some (.cells #[u0, u1] t (0, 0)) := by
  simp [World.setCell, Array.getElem?_modify, h]
set_option maxRecDepth 100000 in
set_option maxHeartbeats 4000000 in
theorem weighed_any (x : ByteArray) (n : Int) (A B D : Option Addr) (vs cs us : List Int) (c1 c2 c3 : Nat) (w : World) (h : Pl w A D vs us) (hB : Ints w B cs) (hl : vs.length ≤ cs.length) (hc : ∀ x ∈ cs, -1000000 ≤ x ∧ x ≤ 1000000) (hn : vs.length ≤ 100) :
    Calls Tryd.prog 64 #[.agg #[.string x, .slice A vs.length c1, .slice B cs.length c2, .int .i64 n], .slice D us.length c3] w fun e w' => e = .returned (wideW (dot cs (pick vs us))) ∧ Below w.heap.size w w' := by
  obtain ⟨ha, hd, hr⟩ := h
  have cl : (pick vs us).length = vs.length := by simp [pick]
  have rng := pick_range (vs := vs) hd.2.1
  have PB := Lib.hid (part_bound (us := pick vs us) (by omega) hc rng (by omega))
  have TB := Lib.hid (term_bound (us := pick vs us) (by omega) hc rng)
  have HA := Lib.hid ha.2.2
  have HB := Lib.hid hB.2.2
  have HD := Lib.hid hd.2.2
  have HD2 := Lib.hid hd.2.1
  have HR := Lib.hid hr
  have HC := Lib.hid hc
  have PA := Lib.hid (part_all cs (pick vs us))
  clear ha hB hd hr hc rng
  go_enter Tryd.func64, Tryd.ntmps64
  go_wp2_with fail
  go_loopw [6, 7, 11] (fun _ _ i wr => ∃ k : Nat, k ≤ vs.length ∧ i = .int .i64 k ∧ Below w.heap.size w wr ∧ wr.heap[w.heap.size]? = some (.cells #[.string x, .slice A vs.length c1, .slice B cs.length c2, .int .i64 n] 37 (0, 0)) ∧ wr.heap[w.heap.size + 1]? = some (.cells #[.int .i64 0, .int .u64 0] 85 (0, 0)) ∧
      wr.heap[w.heap.size + 2]? = some (.cells #[.int .i64 (part cs (pick vs us) k / 18446744073709551616), .int .u64 (part cs (pick vs us) k % 18446744073709551616)] 85 (0, 0))) (fun _ _ i _ => vs.length - (intOf i).toNat)
  case atStart =>
    refine ⟨0, Nat.zero_le _, rfl, (((Below.refl _ w).alloc (Nat.le_refl _) _).alloc (by simp) _).alloc (by simp; omega) _, ?_, ?_, ?_⟩
    · exact (Below.heap_alloc _ _ _ (by simp; omega)).trans ((Below.heap_alloc _ _ _ (by simp)).trans (World.alloc_heap_new w _))
    · refine (Below.heap_alloc _ _ _ (by simp)).trans ?_
      have := World.alloc_heap_new (w.alloc (.cells #[.string x, .slice A vs.length c1, .slice B cs.length c2, .int .i64 n] 37)) (.cells #[.int .i64 0, .int .u64 0] 85)
      rwa [World.size_alloc] at this
    · have := World.alloc_heap_new ((w.alloc (.cells #[.string x, .slice A vs.length c1, .slice B cs.length c2, .int .i64 n] 37)).alloc (.cells #[.int .i64 0, .int .u64 0] 85)) (.cells #[.int .i64 0, .int .u64 0] 85)
      rw [World.size_alloc, World.size_alloc] at this
      exact this
  case round =>
    obtain ⟨k, hk, rfl, hB0, hx0, hx1, hx2⟩ := hrel
    have hs2 := lt_of_block hx2
    by_cases hlt : k < vs.length
    · obtain ⟨b1, o1, rfl, hb1', g1⟩ := HA.out (by omega)
      obtain ⟨b2, o2, rfl, hb2', g2⟩ := HB.out (by omega)
      obtain ⟨v1, v2⟩ := HR.out k hlt
      obtain ⟨b3, o3, rfl, hb3', g3⟩ := HD.out (by omega)
      have x1 := (hB0.cell (p := ⟨b1, o1 + k, none⟩) hb1').trans (g1 k hlt)
      have x2 := (hB0.cell (p := ⟨b2, o2 + k, none⟩) hb2').trans (g2 k (by omega))
      obtain ⟨q, hq⟩ : ∃ q : Nat, vs[k] = q := ⟨vs[k].toNat, by omega⟩
      rw [hq] at x1 v1 v2
      have x3 := (hB0.cell (p := ⟨b3, o3 + q, none⟩) hb3').trans (g3 q (by omega))
      have hu := HD2.out _ (List.getElem_mem (show q < us.length by omega))
      have hcc := HC.out _ (List.getElem_mem (show k < cs.length by omega))
      have e1 : part cs (pick vs us) (k + 1) = part cs (pick vs us) k + cs[k]'(by omega) * us[q]'(by omega) := by
        have h1 : cs.getD k 0 = cs[k]'(by omega) := by rw [List.getD_eq_getElem?_getD, List.getElem?_eq_getElem (by omega)]; rfl
        have h2 : (pick vs us).getD k 0 = us[q]'(by omega) := by
          have := nth_pick (vs := vs) (us := us) hlt
          unfold nthI at this
          rw [this, hq, List.getD_eq_getElem?_getD]
          simp [List.getElem?_eq_getElem (show q < us.length by omega)]
        rw [← h1, ← h2]; rfl
      have w1 := PB.out k (by omega)
      have w2 := PB.out (k + 1) (by omega)
      have E1 := Lib.hid e1
      rw [e1] at w2
      have E2 := Lib.hid hq
      generalize cs[k]'(by omega) = c at *
      generalize us[q]'(by omega) = u at *
      generalize vs[k] = vk at *
      generalize part cs (pick vs us) k = S at *
      have d0 : wr.cell? ⟨w.heap.size + 2, 0, none⟩ = some (.int .i64 (S / 18446744073709551616)) := by simp [World.cell?, hx2]
      have d1 : wr.cell? ⟨w.heap.size + 2, 1, none⟩ = some (.int .u64 (S % 18446744073709551616)) := by simp [World.cell?, hx2]
      have d2 : wr.cell? ⟨w.heap.size, 2, none⟩ = some (.slice (some ⟨b2, o2, none⟩) cs.length c2) := by simp [World.cell?, hx0]
      have z1 : (k : Int) < (vs.length : Int) := by omega
      have z2 : (0 : Int) ≤ (k : Int) := by omega
      have z3 : (k : Int) < (cs.length : Int) := by omega
      clear g1 g2 g3 HA HB HD HR HC HD2 PB TB PA e1 hq
      have T := Lib.hid (fun wx => wtimes_any c u wx (by omega) hu)
      have w3 : wBound (c * u) := by
        have := mul_bound (A := 1000000) (B := 9223372036854775808) hcc (b := u) (by omega)
        unfold wBound
        omega
      have P := Lib.hid (fun wx => plus_any S (c * u) wx w1 w3 w2)
      unfold wideW at *
      clear w1 w2 w3
      have hx2' := hx2
      obtain ⟨s1, hs1⟩ : ∃ s1, S / 18446744073709551616 = s1 := ⟨_, rfl⟩
      obtain ⟨s2, hs2'⟩ : ∃ s2, S % 18446744073709551616 = s2 := ⟨_, rfl⟩
      rw [hs1] at d0
      rw [hs2'] at d1
      obtain ⟨p1, hp1⟩ : ∃ p1, (c * u) / 18446744073709551616 = p1 := ⟨_, rfl⟩
      obtain ⟨p2, hp2⟩ : ∃ p2, (c * u) % 18446744073709551616 = p2 := ⟨_, rfl⟩
      obtain ⟨r1, hr1⟩ : ∃ r1, (S + c * u) / 18446744073709551616 = r1 := ⟨_, rfl⟩
      obtain ⟨r2, hr2⟩ : ∃ r2, (S + c * u) % 18446744073709551616 = r2 := ⟨_, rfl⟩
      have f0 : wr.frozen? ⟨w.heap.size + 2, 0, none⟩ = false := by simp [World.frozen?, hx2]
      have f1 : wr.frozen? ⟨w.heap.size + 2, 1, none⟩ = false := by simp [World.frozen?, hx2]
      have keep : ∀ wx wy, (wx.cell? ⟨w.heap.size + 2, 0, none⟩ = some (.int .i64 s1) ∧ wx.cell? ⟨w.heap.size + 2, 1, none⟩ = some (.int .u64 s2) ∧ wx.cell? ⟨w.heap.size, 2, none⟩ = some (.slice (some ⟨b2, o2, none⟩) cs.length c2) ∧ wx.cell? ⟨b2, o2 + k, none⟩ = some (.int .i64 c) ∧ wx.cell? ⟨b3, o3 + q, none⟩ = some (.int .i64 u) ∧ wx.frozen? ⟨w.heap.size + 2, 0, none⟩ = false ∧ wx.frozen? ⟨w.heap.size + 2, 1, none⟩ = false ∧ w.heap.size + 2 < wx.heap.size ∧ Below (w.heap.size + 3) wr wx) → Below wx.heap.size wx wy → (wy.cell? ⟨w.heap.size + 2, 0, none⟩ = some (.int .i64 s1) ∧ wy.cell? ⟨w.heap.size + 2, 1, none⟩ = some (.int .u64 s2) ∧ wy.cell? ⟨w.heap.size, 2, none⟩ = some (.slice (some ⟨b2, o2, none⟩) cs.length c2) ∧ wy.cell? ⟨b2, o2 + k, none⟩ = some (.int .i64 c) ∧ wy.cell? ⟨b3, o3 + q, none⟩ = some (.int .i64 u) ∧ wy.frozen? ⟨w.heap.size + 2, 0, none⟩ = false ∧ wy.frozen? ⟨w.heap.size + 2, 1, none⟩ = false ∧ w.heap.size + 2 < wy.heap.size ∧ Below (w.heap.size + 3) wr wy) := by
        rintro wx wy ⟨a0, a1, a2, a3, a4, a5, a6, a7, a8⟩ hb
        exact ⟨(hb.cell (p := ⟨w.heap.size + 2, 0, none⟩) a7).trans a0, (hb.cell (p := ⟨w.heap.size + 2, 1, none⟩) a7).trans a1, (hb.cell (p := ⟨w.heap.size, 2, none⟩) (by show w.heap.size < _; omega)).trans a2, (hb.cell (p := ⟨b2, o2 + k, none⟩) (by show b2 < _; omega)).trans a3, (hb.cell (p := ⟨b3, o3 + q, none⟩) (by show b3 < _; omega)).trans a4,
          (hb.frozen (p := ⟨w.heap.size + 2, 0, none⟩) a7).trans a5, (hb.frozen (p := ⟨w.heap.size + 2, 1, none⟩) a7).trans a6, by have := hb.size; omega, a8.trans (hb.mono (by omega))⟩
      have TC : ∀ wx, (wx.cell? ⟨w.heap.size + 2, 0, none⟩ = some (.int .i64 s1) ∧ wx.cell? ⟨w.heap.size + 2, 1, none⟩ = some (.int .u64 s2) ∧ wx.cell? ⟨w.heap.size, 2, none⟩ = some (.slice (some ⟨b2, o2, none⟩) cs.length c2) ∧ wx.cell? ⟨b2, o2 + k, none⟩ = some (.int .i64 c) ∧ wx.cell? ⟨b3, o3 + q, none⟩ = some (.int .i64 u) ∧ wx.frozen? ⟨w.heap.size + 2, 0, none⟩ = false ∧ wx.frozen? ⟨w.heap.size + 2, 1, none⟩ = false ∧ w.heap.size + 2 < wx.heap.size ∧ Below (w.heap.size + 3) wr wx) → Calls Tryd.prog 69 #[.int .i64 c, .int .i64 u] wx fun e wy => e = .returned (.agg #[.int .i64 p1, .int .u64 p2]) ∧ (wy.cell? ⟨w.heap.size + 2, 0, none⟩ = some (.int .i64 s1) ∧ wy.cell? ⟨w.heap.size + 2, 1, none⟩ = some (.int .u64 s2) ∧ wy.cell? ⟨w.heap.size, 2, none⟩ = some (.slice (some ⟨b2, o2, none⟩) cs.length c2) ∧ wy.cell? ⟨b2, o2 + k, none⟩ = some (.int .i64 c) ∧ wy.cell? ⟨b3, o3 + q, none⟩ = some (.int .i64 u) ∧ wy.frozen? ⟨w.heap.size + 2, 0, none⟩ = false ∧ wy.frozen? ⟨w.heap.size + 2, 1, none⟩ = false ∧ w.heap.size + 2 < wy.heap.size ∧ Below (w.heap.size + 3) wr wy) := by
        intro wx hS
        refine (T.out wx).mono ?_
        rintro e wy ⟨rfl, hb⟩
        exact ⟨by rw [hp1, hp2], keep wx wy hS hb⟩
      have PC : ∀ wx, (wx.cell? ⟨w.heap.size + 2, 0, none⟩ = some (.int .i64 s1) ∧ wx.cell? ⟨w.heap.size + 2, 1, none⟩ = some (.int .u64 s2) ∧ wx.cell? ⟨w.heap.size, 2, none⟩ = some (.slice (some ⟨b2, o2, none⟩) cs.length c2) ∧ wx.cell? ⟨b2, o2 + k, none⟩ = some (.int .i64 c) ∧ wx.cell? ⟨b3, o3 + q, none⟩ = some (.int .i64 u) ∧ wx.frozen? ⟨w.heap.size + 2, 0, none⟩ = false ∧ wx.frozen? ⟨w.heap.size + 2, 1, none⟩ = false ∧ w.heap.size + 2 < wx.heap.size ∧ Below (w.heap.size + 3) wr wx) → Calls Tryd.prog 84 #[.agg #[.int .i64 s1, .int .u64 s2], .agg #[.int .i64 p1, .int .u64 p2]] wx fun e wy => e = .returned (.agg #[.int .i64 r1, .int .u64 r2]) ∧ (wy.cell? ⟨w.heap.size + 2, 0, none⟩ = some (.int .i64 s1) ∧ wy.cell? ⟨w.heap.size + 2, 1, none⟩ = some (.int .u64 s2) ∧ wy.cell? ⟨w.heap.size, 2, none⟩ = some (.slice (some ⟨b2, o2, none⟩) cs.length c2) ∧ wy.cell? ⟨b2, o2 + k, none⟩ = some (.int .i64 c) ∧ wy.cell? ⟨b3, o3 + q, none⟩ = some (.int .i64 u) ∧ wy.frozen? ⟨w.heap.size + 2, 0, none⟩ = false ∧ wy.frozen? ⟨w.heap.size + 2, 1, none⟩ = false ∧ w.heap.size + 2 < wy.heap.size ∧ Below (w.heap.size + 3) wr wy) := by
        intro wx hS
        have := P.out wx
        rw [hs1, hs2', hp1, hp2, hr1, hr2] at this
        refine this.mono ?_
        rintro e wy ⟨rfl, hb⟩
        exact ⟨rfl, keep wx wy hS hb⟩
      have hS : wr.cell? ⟨w.heap.size + 2, 0, none⟩ = some (.int .i64 s1) ∧ wr.cell? ⟨w.heap.size + 2, 1, none⟩ = some (.int .u64 s2) ∧ wr.cell? ⟨w.heap.size, 2, none⟩ = some (.slice (some ⟨b2, o2, none⟩) cs.length c2) ∧ wr.cell? ⟨b2, o2 + k, none⟩ = some (.int .i64 c) ∧ wr.cell? ⟨b3, o3 + q, none⟩ = some (.int .i64 u) ∧ wr.frozen? ⟨w.heap.size + 2, 0, none⟩ = false ∧ wr.frozen? ⟨w.heap.size + 2, 1, none⟩ = false ∧ w.heap.size + 2 < wr.heap.size ∧ Below (w.heap.size + 3) wr wr := ⟨d0, d1, d2, x2, x3, f0, f1, hs2, Below.refl _ _⟩
      have HX := Lib.hid (And.intro hx0 (And.intro hx1 hx2'))
      clear T P keep hx2 hx2' hx0 hx1 hs1 hs2' hp1 hp2 hcc hu E2
      go_wp2_with fail
      go_region_with (first | (go_at_call 69; refine (TC _ (by first | assumption | exact ⟨d0, d1, d2, x2, x3, f0, f1, hs2, (Below.refl _ _).drew⟩)).mono ?_; rintro e wy ⟨rfl, hS2⟩; obtain ⟨k0, k1, k2, k3, k4, k5, k6, k7, k8⟩ := id hS2) | (go_at_call 84; refine (PC _ (by assumption)).mono ?_; rintro e wy ⟨rfl, hS3⟩; obtain ⟨j0, j1, j2, j3, j4, j5, j6, j7, j8⟩ := id hS3))
      all_goals
        (have HW := Lib.hid j8
         have s8 := j8.size
         clear TC PC hS hS2 hS3 k0 k1 k2 k3 k4 k5 k6 k7 k8 j0 j1 j2 j3 j4 j5 j6 j7 j8
         go_wp2_with fail
         go_roundw
         case rel =>
           have n0 : w.heap.size ≠ w.heap.size + 1 + 1 := by omega
           have n1 : w.heap.size + 1 ≠ w.heap.size + 1 + 1 := by omega
           refine ⟨k + 1, by omega, by go_num, ?_, ?_, ?_, ?_⟩
           · exact ((hB0.trans (HW.out.mono (by omega))).setCell (p := ⟨w.heap.size + 1 + 1, 0, none⟩) (by show w.heap.size ≤ w.heap.size + 1 + 1; omega) _).setCell (p := ⟨w.heap.size + 1 + 1, 1, none⟩) (by show w.heap.size ≤ w.heap.size + 1 + 1; omega) _
           · exact (Below.heap_setCell _ _ _ _ n0).trans ((Below.heap_setCell _ _ _ _ n0).trans ((HW.out.block _ (by omega)).trans HX.out.1))
           · exact (Below.heap_setCell _ _ _ _ n1).trans ((Below.heap_setCell _ _ _ _ n1).trans ((HW.out.block _ (by omega)).trans HX.out.2.1))
           · rw [E1.out, hr1, hr2]
             exact two_set ((HW.out.block _ (by omega)).trans HX.out.2.2)
         case measure => simp [intOf]; omega)
    · obtain rfl : k = vs.length := by omega
      have PAo := PA.out
      rw [cl] at PAo
      rw [PAo] at hx2
      have d0 : wr.cell? ⟨w.heap.size + 2, 0, none⟩ = some (.int .i64 (dot cs (pick vs us) / 18446744073709551616)) := by simp [World.cell?, hx2]
      have d1 : wr.cell? ⟨w.heap.size + 2, 1, none⟩ = some (.int .u64 (dot cs (pick vs us) % 18446744073709551616)) := by simp [World.cell?, hx2]
      have e0 : wr.cell? ⟨w.heap.size + 1, 0, none⟩ = some (.int .i64 0) := by simp [World.cell?, hx1]
      have e1 : wr.cell? ⟨w.heap.size + 1, 1, none⟩ = some (.int .u64 0) := by simp [World.cell?, hx1]
      have f0 : ∀ o, wr.frozen? ⟨w.heap.size + 1, o, none⟩ = false := fun o => by simp [World.frozen?, hx1]
      have HB1 := Lib.hid hB0
      obtain ⟨R, hR⟩ : ∃ R, dot cs (pick vs us) = R := ⟨_, rfl⟩
      rw [hR] at d0 d1
      have HRR := Lib.hid hR
      clear hR
      clear HA HB HD HR HC HD2 PB TB PA PAo hx0 hx1 hx2 hB0
      go_wp2_with fail
      exact bodyPost_ret (v := wideW R) (by simp [results, Tryd.results64, go_sem, wideW, e0, e1]) rfl ⟨by rw [HRR.out], (HB1.out.setCell (p := ⟨w.heap.size + 1, 0, none⟩) (by show w.heap.size ≤ w.heap.size + 1; omega) _).setCell (p := ⟨w.heap.size + 1, 1, none⟩) (by show w.heap.size ≤ w.heap.size + 1; omega) _⟩
end Go.Proofs.YtpejolnjnkcolaaDoor
