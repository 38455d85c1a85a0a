/-
  The parts of a text between spaces, as the library goes through them.
-/
import Derived.Test.YtjhlodbhchdkbaaGreatDoorDtA
import Derived.Test.YtjhlodbhchdkbaaGreatDoorRgM
import Derived.Test.YtjhlodbhchdkbaaGreatDoorDtE
namespace Go.Proofs.YtjhlodbhchdkbaaGreatDoor
set_option linter.unusedSimpArgs false
set_option linter.unusedVariables false
open Go Go.RowKit Go.Shelf Go.Lib Go.Ev

attribute [local go_sem] Oper.semAt_some

theorem st_drop (l : List UInt8) (k : Nat) : (st l).extract k l.length = st (l.drop k) := by
  unfold st
  rw [ByteArray.extract_mk, List.take_of_length_le (by simp)]
theorem st_take (l : List UInt8) (k : Nat) : (st l).extract 0 k = st (l.take k) := by
  unfold st
  rw [ByteArray.extract_mk, List.drop_zero, Nat.sub_zero]
/-- another text in one cell -/
def sStep (B : Nat) (X Y : World) : Prop := ∃ r, Y = X.setCell ⟨B, 0, none⟩ (.string (st r))
theorem set_other {B : Nat} (X : World) (v : Value) {k : Nat} (hk : k ≠ B) : (X.setCell ⟨B, 0, none⟩ v).heap[k]? = X.heap[k]? := Below.heap_setCell _ _ _ k hk
/-- what the iterator has captured stays -/
def capKeep (B : Nat) (X Y : World) : Prop := ∀ k, (k = 3 ∨ (B ≤ k ∧ k < B + 3)) → Y.heap[k]? = X.heap[k]?
theorem capKeep.trans {B : Nat} {X Y Z : World} (h : capKeep B X Y) (k : capKeep B Y Z) : capKeep B X Z := fun i hi => (k i hi).trans (h i hi)
def StrAt (W : World) (B : Nat) (l : List UInt8) : Prop := W.heap[B]? = some (.cells #[.string (st l)] 9 (0, 0))
theorem StrAt.cell {W : World} {B : Nat} {l : List UInt8} (h : StrAt W B l) : W.cell? ⟨B, 0, none⟩ = some (.string (st l)) := by
  simp only [World.cell?, show W.heap[B]? = _ from h]
  first | done | rfl
theorem StrAt.free {W : World} {B : Nat} {l : List UInt8} (h : StrAt W B l) : W.frozen? ⟨B, 0, none⟩ = false := by
  simp [World.frozen?, show W.heap[B]? = _ from h]
theorem StrAt.put {W : World} {B : Nat} {l : List UInt8} (h : StrAt W B l) (q : List UInt8) : StrAt (W.setCell ⟨B, 0, none⟩ (.string (st q))) B q := heap_setCell_same _ B 0 _ _ _ h
/-- what the iterator has captured: a text, the space, no more of it -/
def Cap (W : World) (B : Nat) (q : List UInt8) : Prop := StrAt W B q ∧ StrAt W (B + 1) [32] ∧ W.heap[B + 2]? = some (.cells #[.int .i64 0] 3 (0, 0)) ∧ ∃ m, W.cell? ⟨3, 0, none⟩ = some (.int .i64 m)
theorem Cap.kept {W W' : World} {B : Nat} {q : List UInt8} (h : Cap W B q) (k : capKeep B W W') : Cap W' B q := by
  obtain ⟨h1, h2, h3, m, h4⟩ := h
  refine ⟨(k B (Or.inr ⟨by omega, by omega⟩)).trans h1, (k (B + 1) (Or.inr ⟨by omega, by omega⟩)).trans h2, (k (B + 2) (Or.inr ⟨by omega, by omega⟩)).trans h3, m, ?_⟩
  simp only [World.cell?, k 3 (Or.inl rfl)]
  simpa only [World.cell?] using h4
theorem Cap.put {W : World} {B : Nat} {q : List UInt8} (h : Cap W B q) (r : List UInt8) (hg : 3 < B) : Cap (W.setCell ⟨B, 0, none⟩ (.string (st r))) B r := by
  obtain ⟨h1, h2, h3, m, h4⟩ := h
  refine ⟨h1.put r, (set_other W _ (by omega)).trans h2, (set_other W _ (by omega)).trans h3, m, ?_⟩
  simp only [World.cell?, set_other W (.string (st r)) (show 3 ≠ B by omega)]
  simpa only [World.cell?] using h4
theorem Cap.save {W : World} {B : Nat} {q : List UInt8} (h : Cap W B q) : W.cell? ⟨B + 2, 0, none⟩ = some (.int .i64 0) := by
  simp only [World.cell?, h.2.2.1]; rfl
def strLen (W : World) (B : Nat) : Nat := match W.cell? ⟨B, 0, none⟩ with
  | some (.string s) => s.size
  | _ => 0
theorem wrap_k (k : Nat) (h : k ≤ 1000000) : wrap64 ((k : Int) + 1) = (k : Int) + 1 := by unfold wrap64; omega
set_option maxRecDepth 100000 in
set_option maxHeartbeats 4000000 in
theorem split_goes (n : Nat) (hn : 2 ≤ n) (B : Nat) (l : List UInt8) (hg : 3 < B) (hl : l.length ≤ 1000000) :
    GoesTill Fence.wide n Tryz.prog 45 #[.pointer (some ⟨B + 1, 0, none⟩), .pointer (some ⟨B, 0, none⟩), .pointer (some ⟨B + 2, 0, none⟩)] (fun x : List UInt8 => #[Value.string (st x)]) (sStep B) (capKeep B) (spl l) (fun W => Cap W B l) := by
  intro y J Jx W hW hS hY h0
  have hS := Lib.hid hS
  refine callsIn_of_wp Tryz.func45 rfl trivial ?_ rfl
  simp only [Tryz.ntmps45, List.size_toArray, List.length_cons, List.length_nil, Nat.reduceAdd, Nat.reduceSub, Array.replicate_succ, Array.replicate_zero, List.push_toArray, List.append_toArray, List.nil_append, List.cons_append]
  have c1 := hW.2.1.cell
  have HW := Lib.hid hW
  generalize hall : spl l = all at *
  have HL := Lib.hid hall
  clear hall hW
  have zq : (st [32]).size = 1 := rfl
  gi_wp2
  clear c1
  gi_loopw [] (fun wr => ∃ (pre : List (List UInt8)) (q : List UInt8), q.length ≤ 1000000 ∧ Cap wr B q ∧ all = pre ++ spl q ∧ J pre wr) (fun wr => strLen wr B)
  case atStart => exact ⟨[], l, hl, HW.out, HL.out.symm, h0⟩
  case round =>
    obtain ⟨pre, q, hq, hc, hx, hJs⟩ := hrel
    have c0 := hc.1.cell
    have c1 := hc.2.1.cell
    have c2 := hc.save
    obtain ⟨m, hm⟩ := hc.2.2.2
    have IX := Lib.hid (fun w (hm : w.cell? ⟨3, 0, none⟩ = some (.int .i64 m)) => callsIn_wide (n := n - 1).2 (Tryz.strings_Index (st q) (st [32]) m w (by rw [st_size]; omega) hm))
    rcases has_sign 32 q with hno | ⟨p, r, rfl, hp⟩
    · rw [spl_none hno] at hx
      have ei := Lib.hid (show Lib.index (st q).data.toList (st [32]).data.toList = -1 from by rw [st_data, st_data]; exact index1_none hno)
      obtain ⟨fn, tmps, assign, body, hy, hR⟩ := hY pre q [] wr hx hJs
      try dsimp only at hy
      gi_wp2_with (refine ⟨trivial, fun _ => by omega, ?_⟩; gi_at_call 47; refine (IX.out _ hm).mono ?_; rw [ei.out]; rintro e w' ⟨rfl, rfl⟩)
      refine ⟨fun _ => by omega, hR.mono ?_⟩
      rintro e W3 (⟨rfl, hJ3, hk3⟩ | ⟨rfl, hx3⟩)
      · gi_wp2
        go_end0
        exact ⟨⟨_, rfl⟩, Or.inl (by rw [hx]; exact hJ3)⟩
      · gi_wp2
        go_end0
        exact ⟨⟨_, rfl⟩, Or.inr hx3⟩
    · rw [spl_some hp] at hx
      have ei := Lib.hid (show Lib.index (st (p ++ 32 :: r)).data.toList (st [32]).data.toList = (p.length : Int) from by rw [st_data, st_data]; exact index1_some hp)
      obtain ⟨fn, tmps, assign, body, hy, hR⟩ := hY pre p (spl r) wr hx hJs
      have hpl : p.length ≤ 1000000 := by rw [List.length_append] at hq; omega
      have w1 : wrap64 (p.length : Int) = (p.length : Int) := by unfold wrap64; omega
      have w2 : wrap64 ((p.length : Int) + 1) = (p.length : Int) + 1 := wrap_k p.length hpl
      have z4 : (p.length : Int) ≤ ((st (p ++ 32 :: r)).size : Int) := by rw [st_size, List.length_append]; simp; omega
      have z5 : (p.length : Int) + 1 ≤ ((st (p ++ 32 :: r)).size : Int) := by rw [st_size, List.length_append]; simp; omega
      have z6 : (0 : Int) ≤ (p.length : Int) + 1 := by omega
      have z0 : ¬ (p.length : Int) < 0 := by omega
      have z1 : p.length ≤ (st (p ++ 32 :: r)).size := by rw [st_size, List.length_append]; omega
      have z2 : p.length + 1 ≤ (st (p ++ 32 :: r)).size := by rw [st_size, List.length_append]; simp
      have z3 : (0 : Int) ≤ (p.length : Int) := by omega
      have x1 : (st (p ++ 32 :: r)).extract 0 p.length = st p := by rw [st_take, List.take_left' rfl]
      gi_wp2_with (refine ⟨trivial, fun _ => by omega, ?_⟩; gi_at_call 47; refine (IX.out _ hm).mono ?_; rw [ei.out]; rintro e w' ⟨rfl, rfl⟩)
      have HM := Lib.hid (show strLen w' B = (p ++ 32 :: r).length from by unfold strLen; rw [c0]; exact st_size _)
      refine ⟨fun _ => by omega, hR.mono ?_⟩
      rintro e W3 (⟨rfl, hJ3, hk3⟩ | ⟨rfl, hx3⟩)
      · have HC3 := Lib.hid (hc.kept hk3)
        have HJ3 := Lib.hid hJ3
        have HX := Lib.hid hx
        have HQ := Lib.hid hq
        clear c0 c1 c2 hc hk3 hJ3 hJs hR hy hx hm IX ei x1 hq
        have d0 := HC3.out.1.cell
        have d1 := HC3.out.2.1.cell
        have df := HC3.out.1.free
        have x2 : (st (p ++ 32 :: r)).extract (p.length + 1) (st (p ++ 32 :: r)).size = st r := by
          rw [st_size, st_drop]
          congr 1
          rw [List.drop_append]
          simp
        gi_wp2
        go_roundw
        case rel =>
          refine ⟨pre ++ [p], r, ?_, HC3.out.put r hg, ?_, hS.out _ _ _ HJ3.out ⟨_, rfl⟩⟩
          · have := HQ.out
            simp only [List.length_append, List.length_cons] at this
            omega
          · rw [HX.out]; simp
        case measure =>
          have e3 : strLen (W3.setCell ⟨B, 0, none⟩ (.string (st r))) B = r.length := by
            unfold strLen
            rw [(HC3.out.put r hg).1.cell]
            exact st_size _
          rw [HM.out, e3, List.length_append, List.length_cons]
          omega
      · gi_wp2
        refine bodyPost_ret (v := .tuple #[]) (by first | exact results_none rfl _ _ _ | simp [results, Tryz.results45, go_sem]) rfl ?_
        exact ⟨⟨_, rfl⟩, Or.inr hx3⟩
end Go.Proofs.YtjhlodbhchdkbaaGreatDoor
