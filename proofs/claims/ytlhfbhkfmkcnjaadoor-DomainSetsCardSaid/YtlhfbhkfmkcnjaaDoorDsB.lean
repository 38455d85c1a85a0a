/-
  The numbers of a list of ranges: how many; the document's list of them.
-/
import Derived.Test.YtlhfbhkfmkcnjaaDoorDsA
import Derived.Test.YtlhfbhkfmkcnjaaDoorDsZ
namespace Go.Proofs.YtlhfbhkfmkcnjaaDoor
open Go.RowKit

def run (a b : Int) : List Int := (List.range (b + 1 - a).toNat).map fun (t : Nat) => a + (t : Int)
def vals (d : List (Int × Int)) : List Int := d.flatMap fun p => run p.1 p.2
def sz : List (Int × Int) → Int
  | [] => 0
  | (a, b) :: r => b - a + 1 + sz r
theorem vd_sz {n : Int} {d : List (Int × Int)} (hn : n ≤ 1002) (h : vd n d = true) : 0 ≤ sz d ∧ n + sz d ≤ 1002 ∧ ((vals d).length : Int) = sz d := by
  induction d generalizing n with
  | nil => simp [sz, vals, hn]
  | cons y r ih =>
    obtain ⟨a, b⟩ := y
    simp only [vd, Bool.and_eq_true, decide_eq_true_eq] at h
    obtain ⟨h1, h2, h3⟩ := ih (by omega) h.2
    have e : (vals ((a, b) :: r)).length = (b + 1 - a).toNat + (vals r).length := by simp [vals, run]
    simp only [sz, e]
    omega
theorem sz_drop {d : List (Int × Int)} {k : Nat} (h : k < d.length) : sz (d.drop k) = d[k].2 - d[k].1 + 1 + sz (d.drop (k + 1)) := by
  rw [List.drop_eq_getElem_cons h]; rfl
theorem sz_nonneg {d : List (Int × Int)} (h : ∀ x ∈ d, x.1 ≤ x.2) : 0 ≤ sz d := by
  induction d with
  | nil => simp [sz]
  | cons y r ih =>
    obtain ⟨a, b⟩ := y
    have h1 := h (a, b) (by simp)
    have h2 := ih fun x hx => h x (by simp [hx])
    simp only [sz] at *
    omega
/-- how many numbers a list of ranges has, as both words have it -/
def szV (d : List (Int × Int)) : Int := if vd 0 d = true then sz d else 0

set_option maxHeartbeats 2000000 in
theorem Size_p_any (d : List (Int × Int)) (A : Option Addr) (c : Nat) (w : World) (ha : Pairs w A d) :
    Calls Tryd.prog 23 #[.slice A d.length c] w fun e w' => e = .returned (.int .i64 (szV d)) ∧ Below w.heap.size w w' := by
  have va := Valid_p_any d A c w ha
  obtain ⟨ha1, ha2, ha3⟩ := ha
  have HA := Lib.hid ha3
  have VB := Lib.hid (@vd_all 0 d (by omega))
  have VS := Lib.hid (@vd_sz 0 d (by omega))
  unfold szV
  obtain ⟨R, hR⟩ : ∃ R, vd 0 d = R := ⟨_, rfl⟩
  rw [hR] at va VB VS ⊢
  clear ha2 ha3 hR
  have VA := Lib.hid va
  clear va
  cases R with
  | false =>
    obtain ⟨Z, hZ⟩ : ∃ Z, (if false = true then sz d else 0) = Z := ⟨_, rfl⟩
    rw [hZ]
    have HZ := Lib.hid hZ
    clear hZ
    go_enter Tryd.func23, Tryd.ntmps23
    go_wp2_with fail
    refine VA.out.mono ?_
    rintro e w1 ⟨rfl, hb⟩
    have HB := Lib.hid hb
    clear hb
    go_wp2_with fail
    go_ret
    exact ⟨by rw [← HZ.out]; rfl, HB.out⟩
  | true =>
    obtain ⟨hz1, hz2, hz3⟩ := VS.out rfl
    have vb := VB.out rfl
    have HD := Lib.hid (show ∀ k, 0 ≤ sz (d.drop k) from fun k => sz_nonneg fun x hx => (vb x (List.mem_of_mem_drop hx)).2.1)
    have VV := Lib.hid vb
    clear vb VB VS hz3
    rw [if_pos rfl]
    obtain ⟨Z, hZ⟩ : ∃ Z, sz d = Z := ⟨_, rfl⟩
    rw [hZ] at hz1 hz2 ⊢
    have HZ := Lib.hid hZ
    clear hZ
    go_enter Tryd.func23, Tryd.ntmps23
    go_wp2_with fail
    refine VA.out.mono ?_
    rintro e w1 ⟨rfl, hb⟩
    have HB := Lib.hid hb
    clear hb VA
    go_wp2_with fail
    go_loopw [3, 11] (fun n i wr => ∃ (k : Nat) (m : Int), k ≤ d.length ∧ i = .int .i64 k ∧ n = .int .i64 m ∧ 0 ≤ m ∧ m + sz (d.drop k) = Z ∧ Below w.heap.size w wr) (fun _ i _ => d.length - (intOf i).toNat)
    case atStart => exact ⟨0, 0, Nat.zero_le _, rfl, rfl, by omega, by simpa using HZ.out, HB.out⟩
    case round =>
      obtain ⟨k, m, hk, rfl, rfl, hm0, hvd, hbw⟩ := hrel
      have HBW := Lib.hid hbw
      clear hbw
      by_cases hlt : k < d.length
      · obtain ⟨b1, o1, rfl, hb1', g1⟩ := HA.out (by omega)
        have x1 := (HBW.out.cell (p := ⟨b1, o1 + k * 2, none⟩) hb1').trans (g1 k hlt).1
        have x2 := (HBW.out.cell (p := ⟨b1, o1 + k * 2 + 1, none⟩) hb1').trans (g1 k hlt).2
        have hv := VV.out _ (List.getElem_mem hlt)
        have h0 := HD.out (k + 1)
        rw [sz_drop hlt] at hvd
        clear g1
        generalize d[k] = p at *
        obtain ⟨a, b⟩ := p
        simp only at x1 x2 hv hvd
        have HVD := Lib.hid hvd
        have z3 : (k : Int) < (d.length : Int) := by omega
        have z4 : (0 : Int) ≤ (k : Int) := by omega
        have y1 : m + (b - a + 1) ≤ 1002 := by omega
        clear hvd HA HD VV
        go_wp2_with fail
        case roundEnd => exact ⟨⟨k + 1, m + (b - a + 1), by omega, by go_num, rfl, by omega, by have := HVD.out; omega, HBW.out.alloc HBW.out.size _⟩, by simp [intOf]; omega⟩
      · obtain rfl : k = d.length := by omega
        rw [List.drop_length] at hvd
        have HVD := Lib.hid hvd
        clear hvd HA HD VV
        go_wp2_with fail
        go_ret
        exact ⟨by rw [← HVD.out]; simp [sz], HBW.out⟩
end Go.Proofs.YtlhfbhkfmkcnjaaDoor
