/-
  Whether a propagator holds: two that are apart.
-/
import Derived.Test.YtpejolnjnkcolaaDoorHpG
import Derived.Test.YtpejolnjnkcolaaDoorDmEAll
namespace Go.Proofs.YtpejolnjnkcolaaDoor
open Go Go.RowKit Go.Ev

def ents_apart (l1 l2 : Bool) : List Ent := [⟨65, [.chan (some 5)], .agg ⟨[.chan (some 9), .chan (some 10)]⟩⟩, ⟨67, [.chan (some 4), .chan (some 7)], .agg ⟨[.chan (some 11), .chan (some 12)]⟩⟩, ⟨66, [.agg ⟨[.chan (some 9), .chan (some 10)]⟩, .agg ⟨[.chan (some 11), .chan (some 12)]⟩], .bool l1⟩, ⟨65, [.chan (some 4)], .agg ⟨[.chan (some 13), .chan (some 14)]⟩⟩, ⟨67, [.chan (some 5), .chan (some 8)], .agg ⟨[.chan (some 15), .chan (some 16)]⟩⟩, ⟨66, [.agg ⟨[.chan (some 13), .chan (some 14)]⟩, .agg ⟨[.chan (some 15), .chan (some 16)]⟩], .bool l2⟩]
/-- the row of two numbers -/
def aRow (b o : Nat) (d e : Int) : Rw := ⟨b, o, [.chan (some 7), .chan (some 8)], [.int .i64 d, .int .i64 e]⟩
def rows0 : List Rw := [⟨0, 0, [.chan (some 7), .chan (some 8)], []⟩]
set_option maxRecDepth 100000 in
theorem hold_g_apart : (bs.all fun l1 => bs.all fun l2 => givesR Tryd.prog noOpO (orO (atO 2) (entO (ents_apart l1 l2))) hTab [] 50 20 17 rows0 42 [.agg ⟨[.string ⟨#[97, 112, 97, 114, 116]⟩, .chan (some 0), .slice (some ⟨17, 0, none⟩) 2 2, .chan (some 2)]⟩, .chan (some 3)] (.bool (!l1 || !l2))) = true := by kernel_rfl
theorem apart_same (a b d e : Int) : (decide (a - b ≤ -d) || decide (b - a ≤ -e)) = (!decide (b < a + d) || !decide (a < b + e)) := by
  rw [Bool.eq_iff_iff]
  simp only [Bool.or_eq_true, decide_eq_true_eq, Bool.not_eq_true', decide_eq_false_iff_not]
  omega
set_option maxRecDepth 100000 in
theorem hold_apart (x : ByteArray) (vs us : List Int) (n d e : Int) (A B D : Option Addr) (c1 c2 c3 : Nat) (w : World) (hx : x.toList = [97, 112, 97, 114, 116]) (hp : Pl w A D vs us) (hb : Ints w B [d, e]) (hcc : 2 ≤ c2) (hm : 2 ≤ vs.length) :
    Calls Tryd.prog 42 #[.agg #[.string x, .slice A vs.length c1, .slice B 2 c2, .int .i64 n], .slice D us.length c3] w fun y w' => y = .returned (.bool (decide (nthI (pick vs us) 0 - nthI (pick vs us) 1 ≤ -d) || decide (nthI (pick vs us) 1 - nthI (pick vs us) 0 ≤ -e))) ∧ Below w.heap.size w w' := by
  obtain rfl : x = ⟨#[97, 112, 97, 114, 116]⟩ := by
    obtain ⟨⟨d⟩⟩ := x; rw [Lib.toList_data] at hx; obtain rfl : d = _ := hx; rfl
  have h0 := i64_nth (vs := vs) hp.d.2.1 0
  have h1 := i64_nth (vs := vs) hp.d.2.1 1
  have hd := hb.2.1 d (by simp)
  have hE := hb.2.1 e (by simp)
  obtain ⟨bq, oq, rfl, hbq, fq⟩ := hb.2.2 (by simp)
  have hcs : ∀ i (hi : i < [d, e].length), w.cell? ⟨bq, oq + i, none⟩ = some ([Value.int .i64 d, Value.int .i64 e][i]'(by simpa using hi)) := fun i hi => by
    rw [fq i hi]
    match i, hi with
    | 0, _ => rfl
    | 1, _ => rfl
  obtain ⟨-, arr, et, fz, hq1, hq2, hq3⟩ := rw_of_cells (w := w) (B := bq) (off := oq) (vs := [.int .i64 d, .int .i64 e]) (by simp) hcs
  have he := hAll_one vs [d, e] us n A (some ⟨bq, oq, none⟩) D c1 c2 c3 ([Value.int .i64 d, Value.int .i64 e, Value.int .i64 ((nthI (pick vs us) 1) / 18446744073709551616), Value.int .u64 ((nthI (pick vs us) 1) % 18446744073709551616), Value.int .i64 ((nthI (pick vs us) 0 + d) / 18446744073709551616), Value.int .u64 ((nthI (pick vs us) 0 + d) % 18446744073709551616), Value.int .i64 ((nthI (pick vs us) 0) / 18446744073709551616), Value.int .u64 ((nthI (pick vs us) 0) % 18446744073709551616), Value.int .i64 ((nthI (pick vs us) 1 + e) / 18446744073709551616), Value.int .u64 ((nthI (pick vs us) 1 + e) % 18446744073709551616)] : List Value) (by rfl)
  have sy := rowsφ_sy (iW w (hBase vs [d, e] us n A (some ⟨bq, oq, none⟩) D c1 c2 c3 ++ ([Value.int .i64 d, Value.int .i64 e, Value.int .i64 ((nthI (pick vs us) 1) / 18446744073709551616), Value.int .u64 ((nthI (pick vs us) 1) % 18446744073709551616), Value.int .i64 ((nthI (pick vs us) 0 + d) / 18446744073709551616), Value.int .u64 ((nthI (pick vs us) 0 + d) % 18446744073709551616), Value.int .i64 ((nthI (pick vs us) 0) / 18446744073709551616), Value.int .u64 ((nthI (pick vs us) 0) % 18446744073709551616), Value.int .i64 ((nthI (pick vs us) 1 + e) / 18446744073709551616), Value.int .u64 ((nthI (pick vs us) 1 + e) % 18446744073709551616)] : List Value)) he) [aRow bq oq d e]
  have s : ∀ r, r < 17 → VR (rowsφ (iW w (hBase vs [d, e] us n A (some ⟨bq, oq, none⟩) D c1 c2 c3 ++ ([Value.int .i64 d, Value.int .i64 e, Value.int .i64 ((nthI (pick vs us) 1) / 18446744073709551616), Value.int .u64 ((nthI (pick vs us) 1) % 18446744073709551616), Value.int .i64 ((nthI (pick vs us) 0 + d) / 18446744073709551616), Value.int .u64 ((nthI (pick vs us) 0 + d) % 18446744073709551616), Value.int .i64 ((nthI (pick vs us) 0) / 18446744073709551616), Value.int .u64 ((nthI (pick vs us) 0) % 18446744073709551616), Value.int .i64 ((nthI (pick vs us) 1 + e) / 18446744073709551616), Value.int .u64 ((nthI (pick vs us) 1 + e) % 18446744073709551616)] : List Value)) he) [aRow bq oq d e]) (.chan (some r)) ((hBase vs [d, e] us n A (some ⟨bq, oq, none⟩) D c1 c2 c3 ++ ([Value.int .i64 d, Value.int .i64 e, Value.int .i64 ((nthI (pick vs us) 1) / 18446744073709551616), Value.int .u64 ((nthI (pick vs us) 1) % 18446744073709551616), Value.int .i64 ((nthI (pick vs us) 0 + d) / 18446744073709551616), Value.int .u64 ((nthI (pick vs us) 0 + d) % 18446744073709551616), Value.int .i64 ((nthI (pick vs us) 0) / 18446744073709551616), Value.int .u64 ((nthI (pick vs us) 0) % 18446744073709551616), Value.int .i64 ((nthI (pick vs us) 1 + e) / 18446744073709551616), Value.int .u64 ((nthI (pick vs us) 1 + e) % 18446744073709551616)] : List Value)).getD r (.int .i64 0)) := fun r hr => VR.sym sy hr
  have hen : ∀ y ∈ ents_apart (decide (nthI (pick vs us) 1 < nthI (pick vs us) 0 + d)) (decide (nthI (pick vs us) 0 < nthI (pick vs us) 1 + e)), y.Ok Tryd.prog (iW w (hBase vs [d, e] us n A (some ⟨bq, oq, none⟩) D c1 c2 c3 ++ ([Value.int .i64 d, Value.int .i64 e, Value.int .i64 ((nthI (pick vs us) 1) / 18446744073709551616), Value.int .u64 ((nthI (pick vs us) 1) % 18446744073709551616), Value.int .i64 ((nthI (pick vs us) 0 + d) / 18446744073709551616), Value.int .u64 ((nthI (pick vs us) 0 + d) % 18446744073709551616), Value.int .i64 ((nthI (pick vs us) 0) / 18446744073709551616), Value.int .u64 ((nthI (pick vs us) 0) % 18446744073709551616), Value.int .i64 ((nthI (pick vs us) 1 + e) / 18446744073709551616), Value.int .u64 ((nthI (pick vs us) 1 + e) % 18446744073709551616)] : List Value)) he) := by
    intro y hy
    simp only [ents_apart, List.mem_cons, List.not_mem_nil, or_false] at hy
    rcases hy with rfl | rfl | rfl | rfl | rfl | rfl
    · exact ⟨by first | rfl | kernel_rfl, by first | rfl | kernel_rfl, enters Tryd.func65 (by decide +kernel) (by kernel_rfl), fun w' hbw => wideOf_any (nthI (pick vs us) 1) w' h1⟩
    · exact ⟨by first | rfl | kernel_rfl, by first | rfl | kernel_rfl, enters Tryd.func67 (by decide +kernel) (by kernel_rfl), fun w' hbw => sumOf_any (nthI (pick vs us) 0) d w' h0 hd⟩
    · exact ⟨by first | rfl | kernel_rfl, by first | rfl | kernel_rfl, enters Tryd.func66 (by decide +kernel) (by kernel_rfl), fun w' hbw => isLess_any (nthI (pick vs us) 1) (nthI (pick vs us) 0 + d) w' (by unfold wBound; omega) (by unfold wBound; omega)⟩
    · exact ⟨by first | rfl | kernel_rfl, by first | rfl | kernel_rfl, enters Tryd.func65 (by decide +kernel) (by kernel_rfl), fun w' hbw => wideOf_any (nthI (pick vs us) 0) w' h0⟩
    · exact ⟨by first | rfl | kernel_rfl, by first | rfl | kernel_rfl, enters Tryd.func67 (by decide +kernel) (by kernel_rfl), fun w' hbw => sumOf_any (nthI (pick vs us) 1) e w' h1 hE⟩
    · exact ⟨by first | rfl | kernel_rfl, by first | rfl | kernel_rfl, enters Tryd.func66 (by decide +kernel) (by kernel_rfl), fun w' hbw => isLess_any (nthI (pick vs us) 0) (nthI (pick vs us) 1 + e) w' (by unfold wBound; omega) (by unfold wBound; omega)⟩
  rw [apart_same]
  have hrs : rowS w (aRow bq oq d e) = arr.size := by unfold rowS aRow; simp [hq1]
  have hrow : VR (rowsφ (iW w (hBase vs [d, e] us n A (some ⟨bq, oq, none⟩) D c1 c2 c3 ++ ([Value.int .i64 d, Value.int .i64 e, Value.int .i64 ((nthI (pick vs us) 1) / 18446744073709551616), Value.int .u64 ((nthI (pick vs us) 1) % 18446744073709551616), Value.int .i64 ((nthI (pick vs us) 0 + d) / 18446744073709551616), Value.int .u64 ((nthI (pick vs us) 0 + d) % 18446744073709551616), Value.int .i64 ((nthI (pick vs us) 0) / 18446744073709551616), Value.int .u64 ((nthI (pick vs us) 0) % 18446744073709551616), Value.int .i64 ((nthI (pick vs us) 1 + e) / 18446744073709551616), Value.int .u64 ((nthI (pick vs us) 1 + e) % 18446744073709551616)] : List Value)) he) [aRow bq oq d e]) (.slice (some ⟨17, 0, none⟩) 2 2) (.slice (some ⟨bq, oq, none⟩) 2 c2) :=
    row_slice (w0 := iW w (hBase vs [d, e] us n A (some ⟨bq, oq, none⟩) D c1 c2 c3 ++ ([Value.int .i64 d, Value.int .i64 e, Value.int .i64 ((nthI (pick vs us) 1) / 18446744073709551616), Value.int .u64 ((nthI (pick vs us) 1) % 18446744073709551616), Value.int .i64 ((nthI (pick vs us) 0 + d) / 18446744073709551616), Value.int .u64 ((nthI (pick vs us) 0 + d) % 18446744073709551616), Value.int .i64 ((nthI (pick vs us) 0) / 18446744073709551616), Value.int .u64 ((nthI (pick vs us) 0) % 18446744073709551616), Value.int .i64 ((nthI (pick vs us) 1 + e) / 18446744073709551616), Value.int .u64 ((nthI (pick vs us) 1 + e) % 18446744073709551616)] : List Value)) he) (rs := [aRow bq oq d e]) (i := 0) (x := aRow bq oq d e) rfl (k := 0) hcc (by show oq + 0 ≤ rowS w (aRow bq oq d e); rw [hrs]; simp at hq3; omega)
  refine run_rows (w0 := iW w (hBase vs [d, e] us n A (some ⟨bq, oq, none⟩) D c1 c2 c3 ++ ([Value.int .i64 d, Value.int .i64 e, Value.int .i64 ((nthI (pick vs us) 1) / 18446744073709551616), Value.int .u64 ((nthI (pick vs us) 1) % 18446744073709551616), Value.int .i64 ((nthI (pick vs us) 0 + d) / 18446744073709551616), Value.int .u64 ((nthI (pick vs us) 0 + d) % 18446744073709551616), Value.int .i64 ((nthI (pick vs us) 0) / 18446744073709551616), Value.int .u64 ((nthI (pick vs us) 0) % 18446744073709551616), Value.int .i64 ((nthI (pick vs us) 1 + e) / 18446744073709551616), Value.int .u64 ((nthI (pick vs us) 1 + e) % 18446744073709551616)] : List Value)) he) mixed hTab_ok xtab_nil (noOpO_ok _ _) (orO_ok (atO_ok hp hm) (entO_ok hen)) (N := 50) (n := 20) (args := [.agg ⟨[.string ⟨#[97, 112, 97, 114, 116]⟩, .chan (some 0), .slice (some ⟨17, 0, none⟩) 2 2, .chan (some 2)]⟩, .chan (some 3)]) (rs := [aRow bq oq d e]) ?_ (LR.cons (VR.agg_iff.2 (LR.cons (.leaf (by decide +kernel)) (LR.cons (s 0 (by decide)) (LR.cons hrow (LR.cons (s 2 (by decide)) LR.nil))))) (LR.cons (s 3 (by decide)) LR.nil)) rfl ?_
  · intro y hy
    simp only [List.mem_cons, List.not_mem_nil, or_false] at hy
    subst hy
    exact ⟨LR.cons (s 7 (by decide)) (LR.cons (s 8 (by decide)) LR.nil), hbq, arr, et, fz, hq1, hq2, hq3⟩
  · exact (bs_all (bs_all hold_g_apart (decide (nthI (pick vs us) 1 < nthI (pick vs us) 0 + d))) (decide (nthI (pick vs us) 0 < nthI (pick vs us) 1 + e)))
end Go.Proofs.YtpejolnjnkcolaaDoor
