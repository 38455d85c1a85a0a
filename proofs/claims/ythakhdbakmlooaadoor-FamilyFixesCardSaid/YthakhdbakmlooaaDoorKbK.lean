/-
  Whether all families and relations are valid.
-/
import Derived.Test.YthakhdbakmlooaaDoorKbJ
namespace Go.Proofs.YthakhdbakmlooaaDoor
set_option linter.unusedSimpArgs false
open Go Go.RowKit Go.Shelf Go.Ev

set_option maxRecDepth 100000 in
set_option maxHeartbeats 4000000 in
theorem indexFam_any (fs : List FamV)  (A : Option Addr) (c1 : Nat) (w : World) (ha : FamsLie w A fs)  :
    Calls Tryd.prog 89 #[.slice A fs.length c1, .func (.func 78) #[] #[]] w fun e w' => ∃ r : Int, e = .returned (.int .i64 r) ∧ decide (0 ≤ r) = !fs.all FamV.ok ∧ Below w.heap.size w w' := by
  have hlx := ha.1
  have HA := Lib.hid ha.2
  have C := Lib.hid (fun (f : FamV) (w1 : World) (h1 : Ints w1 f.A f.lo) (h2 : Ints w1 f.B f.hi) => valid1_any f w1 h1 h2)
  obtain ⟨R, hR⟩ : ∃ R, fs.all FamV.ok = R := ⟨_, rfl⟩
  have RE := Lib.hid hR
  rw [hR]
  clear ha hR
  go_enter Tryd.func89, Tryd.ntmps89
  go_wp2_with fail
  go_loopw [5, 8] (fun _ i wr => ∃ k : Nat, k ≤ fs.length ∧ i = .int .i64 k ∧ R = (fs.drop k).all FamV.ok ∧ Below w.heap.size w wr) (fun _ i _ => fs.length - (intOf i).toNat)
  case atStart => exact ⟨0, Nat.zero_le _, rfl, by rw [List.drop_zero]; exact RE.out.symm, Below.refl _ _⟩
  case round =>
    obtain ⟨k, hk, rfl, hd, ho⟩ := hrel
    have HD := Lib.hid hd
    have HO := Lib.hid ho
    clear hd ho
    by_cases hlt : k < fs.length
    · obtain ⟨b1, o1, rfl, hb1', g1⟩ := HA.out (by omega)
      have LI := Lib.hid ((g1 k hlt).over hb1' HO.out)
      have DR := Lib.hid (show fs.drop k = fs[k] :: fs.drop (k + 1) from List.drop_eq_getElem_cons hlt)
      have z1 : (k : Int) < (fs.length : Int) := by omega
      have z2 : (0 : Int) ≤ (k : Int) := by omega
      clear g1 HA
      generalize fs[k] = x at *
      obtain ⟨a0, a1, a2, a3, _⟩ := LI.out
      have C2 := Lib.hid (C.out x wr LI.out.2.2.2.2.1 LI.out.2.2.2.2.2)
      unfold FamV.agg at C2
      clear C
      cases hp : FamV.ok x with
      | true =>
        rw [hp] at C2
        have HD2 := Lib.hid (show R = (fs.drop (k + 1)).all FamV.ok from by rw [HD.out, DR.out, List.all_cons, hp, Bool.true_and])
        clear hp
        go_wp2_with fail
        refine C2.out.mono ?_
        rintro e w1 ⟨rfl, hbl⟩
        have O1 := Lib.hid (HO.out.trans (hbl.mono HO.out.size))
        clear hbl C2
        go_wp2_with fail
        go_roundw
        case rel => exact ⟨k + 1, by omega, by go_num, HD2.out, O1.out⟩
        case measure => simp [intOf]; omega
      | false =>
        rw [hp] at C2
        have HD2 := Lib.hid (show R = false from by rw [HD.out, DR.out, List.all_cons, hp, Bool.false_and])
        clear hp
        go_wp2_with fail
        refine C2.out.mono ?_
        rintro e w1 ⟨rfl, hbl⟩
        have O1 := Lib.hid (HO.out.trans (hbl.mono HO.out.size))
        clear hbl C2
        go_wp2_with fail
        go_ret
        exact ⟨_, rfl, by rw [HD2.out, decide_eq_true (by omega)]; rfl, O1.out⟩
    · obtain rfl : k = fs.length := by omega
      have HD2 := Lib.hid (show R = true from by rw [HD.out, List.drop_length]; rfl)
      clear HA C
      go_wp2_with fail
      go_ret
      exact ⟨_, rfl, by rw [HD2.out, decide_eq_false (by omega)]; rfl, HO.out⟩
set_option maxRecDepth 100000 in
set_option maxHeartbeats 4000000 in
theorem anyFam_any (fs : List FamV)  (A : Option Addr) (c1 : Nat) (w : World) (ha : FamsLie w A fs)  :
    Calls Tryd.prog 77 #[.slice A fs.length c1, .func (.func 78) #[] #[]] w fun e w' => e = .returned (.bool (!fs.all FamV.ok)) ∧ Below w.heap.size w w' := by
  have C := Lib.hid (indexFam_any fs  A c1 w ha )
  generalize fs.all FamV.ok = R at *
  clear ha
  go_enter Tryd.func77, Tryd.ntmps77
  go_wp2_with (go_at_call 89; refine C.out.mono ?_; rintro e w1 ⟨r, rfl, hr, ho⟩; have HO := Lib.hid ho; clear ho)
  go_ret
  exact ⟨by rw [← hr]; rfl, HO.out⟩

set_option maxRecDepth 100000 in
set_option maxHeartbeats 4000000 in
theorem indexRel_any (rs : List RelV) (n lb : Nat) (L : Option Addr) (c : Nat) (A : Option Addr) (c1 : Nat) (w : World) (ha : RelsL w A rs) (hl : w.cell? ⟨lb, 0, none⟩ = some (.slice L n c)) (hlb : lb < w.heap.size) :
    Calls Tryd.prog 90 #[.slice A rs.length c1, .func (.func 80) #[] #[.pointer (some ⟨lb, 0, none⟩)]] w fun e w' => ∃ r : Int, e = .returned (.int .i64 r) ∧ decide (0 ≤ r) = !rs.all (fun r => r.ok n) ∧ Below w.heap.size w w' := by
  have hlx := ha.1
  have HA := Lib.hid ha.2
  have C := Lib.hid (fun (r : RelV) (w1 : World) (h0 : Below w.heap.size w w1) (hk : KF r.k.toList r.d) (h1 : Ints w1 r.A r.vs) => valid2_any r n lb L c w1 hk h1 ((h0.cell (p := ⟨lb, 0, none⟩) hlb).trans hl) (Nat.lt_of_lt_of_le hlb h0.size))
  clear hl hlb
  obtain ⟨R, hR⟩ : ∃ R, rs.all (fun r => r.ok n) = R := ⟨_, rfl⟩
  have RE := Lib.hid hR
  rw [hR]
  clear ha hR
  go_enter Tryd.func90, Tryd.ntmps90
  go_wp2_with fail
  go_loopw [5, 8] (fun _ i wr => ∃ k : Nat, k ≤ rs.length ∧ i = .int .i64 k ∧ R = (rs.drop k).all (fun r => r.ok n) ∧ Below w.heap.size w wr) (fun _ i _ => rs.length - (intOf i).toNat)
  case atStart => exact ⟨0, Nat.zero_le _, rfl, by rw [List.drop_zero]; exact RE.out.symm, Below.refl _ _⟩
  case round =>
    obtain ⟨k, hk, rfl, hd, ho⟩ := hrel
    have HD := Lib.hid hd
    have HO := Lib.hid ho
    clear hd ho
    by_cases hlt : k < rs.length
    · obtain ⟨b1, o1, rfl, hb1', g1⟩ := HA.out (by omega)
      have LI := Lib.hid ((g1 k hlt).over hb1' HO.out)
      have DR := Lib.hid (show rs.drop k = rs[k] :: rs.drop (k + 1) from List.drop_eq_getElem_cons hlt)
      have z1 : (k : Int) < (rs.length : Int) := by omega
      have z2 : (0 : Int) ≤ (k : Int) := by omega
      clear g1 HA
      generalize rs[k] = x at *
      obtain ⟨a0, a1, a2, _⟩ := LI.out
      have C2 := Lib.hid (C.out x wr HO.out LI.out.2.2.2.1 LI.out.2.2.2.2)
      unfold RelV.agg at C2
      clear C
      cases hp : x.ok n with
      | true =>
        rw [hp] at C2
        have HD2 := Lib.hid (show R = (rs.drop (k + 1)).all (fun r => r.ok n) from by rw [HD.out, DR.out, List.all_cons, hp, Bool.true_and])
        clear hp
        go_wp2_with fail
        refine C2.out.mono ?_
        rintro e w1 ⟨rfl, hbl⟩
        have O1 := Lib.hid (HO.out.trans (hbl.mono HO.out.size))
        clear hbl C2
        go_wp2_with fail
        go_roundw
        case rel => exact ⟨k + 1, by omega, by go_num, HD2.out, O1.out⟩
        case measure => simp [intOf]; omega
      | false =>
        rw [hp] at C2
        have HD2 := Lib.hid (show R = false from by rw [HD.out, DR.out, List.all_cons, hp, Bool.false_and])
        clear hp
        go_wp2_with fail
        refine C2.out.mono ?_
        rintro e w1 ⟨rfl, hbl⟩
        have O1 := Lib.hid (HO.out.trans (hbl.mono HO.out.size))
        clear hbl C2
        go_wp2_with fail
        go_ret
        exact ⟨_, rfl, by rw [HD2.out, decide_eq_true (by omega)]; rfl, O1.out⟩
    · obtain rfl : k = rs.length := by omega
      have HD2 := Lib.hid (show R = true from by rw [HD.out, List.drop_length]; rfl)
      clear HA C
      go_wp2_with fail
      go_ret
      exact ⟨_, rfl, by rw [HD2.out, decide_eq_false (by omega)]; rfl, HO.out⟩
set_option maxRecDepth 100000 in
set_option maxHeartbeats 4000000 in
theorem anyRel_any (rs : List RelV) (n lb : Nat) (L : Option Addr) (c : Nat) (A : Option Addr) (c1 : Nat) (w : World) (ha : RelsL w A rs) (hl : w.cell? ⟨lb, 0, none⟩ = some (.slice L n c)) (hlb : lb < w.heap.size) :
    Calls Tryd.prog 79 #[.slice A rs.length c1, .func (.func 80) #[] #[.pointer (some ⟨lb, 0, none⟩)]] w fun e w' => e = .returned (.bool (!rs.all (fun r => r.ok n))) ∧ Below w.heap.size w w' := by
  have C := Lib.hid (indexRel_any rs n lb L c A c1 w ha hl hlb)
  generalize rs.all (fun r => r.ok n) = R at *
  clear ha hl
  go_enter Tryd.func79, Tryd.ntmps79
  go_wp2_with (go_at_call 90; refine C.out.mono ?_; rintro e w1 ⟨r, rfl, hr, ho⟩; have HO := Lib.hid ho; clear ho)
  go_ret
  exact ⟨by rw [← hr]; rfl, HO.out⟩
end Go.Proofs.YthakhdbakmlooaaDoor

/-
  areValid.
-/
namespace Go.Proofs.YthakhdbakmlooaaDoor
set_option linter.unusedSimpArgs false
open Go Go.RowKit Go.Shelf Go.Ev

/-- whether all is valid -/
def validP (rs : List RelV) (fs : List FamV) : Bool := decide (fs.length ≤ 40) && decide (rs.length ≤ 100) && fs.all FamV.ok && rs.all fun r => r.ok fs.length
set_option maxRecDepth 100000 in
set_option maxHeartbeats 8000000 in
theorem areValid_any (rs : List RelV) (fs : List FamV) (A B : Option Addr) (c1 c2 : Nat) (w : World) (ha : RelsL w A rs) (hb : FamsLie w B fs) :
    Calls Tryd.prog 61 #[.slice A rs.length c1, .slice B fs.length c2] w fun e w' => e = .returned (.bool (validP rs fs)) ∧ Below w.heap.size w w' := by
  have hl1 := ha.1
  have hl2 := hb.1
  have CA := Lib.hid (fun w1 (h : Below w.heap.size w w1) => anyFam_any fs B c2 w1 (hb.over h))
  have CB := Lib.hid (fun w1 (h : Below w.heap.size w w1) (hx : w1.cell? ⟨w.heap.size, 0, none⟩ = some (.slice B fs.length c2)) (hs : w.heap.size < w1.heap.size) => anyRel_any rs fs.length w.heap.size B c2 A c1 w1 (ha.over h) hx hs)
  clear ha hb
  obtain ⟨R, hR⟩ : ∃ R, validP rs fs = R := ⟨_, rfl⟩
  rw [hR]
  have RE := Lib.hid hR
  clear hR
  unfold validP at RE
  generalize (rs.all fun r => r.ok fs.length) = vb at *
  generalize fs.all FamV.ok = va at *
  generalize fs.length = nf at *
  generalize rs.length = nr at *
  go_enter Tryd.func61, Tryd.ntmps61
  by_cases h1 : nf ≤ 40
  · by_cases h2 : nr ≤ 100
    · have y1 : (nf : Int) ≤ 40 := by omega
      have y2 : (nr : Int) ≤ 100 := by omega
      have RF := Lib.hid (show (va && vb) = R from by have := RE.out; simpa [h1, h2] using this)
      clear RE h1 h2
      cases va with
      | false =>
        go_wp2_with (go_at_call 77; refine (CA.out _ ((Below.refl _ w).alloc (Nat.le_refl _) _)).mono ?_; rintro e w1 ⟨rfl, hb⟩; have B1 := Lib.hid (((Below.refl _ w).alloc (Nat.le_refl _) (.cells #[.slice B nf c2] 43)).trans (hb.mono (by simp))); have X1 := Lib.hid (show w1.cell? ⟨w.heap.size, 0, none⟩ = some (.slice B nf c2) from (hb.cell (p := ⟨w.heap.size, 0, none⟩) (by simp)).trans (by simp only [World.cell?, heap_alloc_new]; rfl)); have S1 := Lib.hid (Nat.lt_of_lt_of_le (show w.heap.size < (w.alloc (.cells #[.slice B nf c2] 43)).heap.size by simp) hb.size); clear hb)
        refine bodyPost_ret (v := .bool false) (by simp [results, Tryd.results61, go_sem]) rfl ?_
        exact ⟨by rw [← RF.out]; rfl, B1.out⟩
      | true =>
        cases vb with
        | false =>
          go_wp2_with (first | (go_at_call 77; refine (CA.out _ ((Below.refl _ w).alloc (Nat.le_refl _) _)).mono ?_; rintro e w1 ⟨rfl, hb⟩; have B1 := Lib.hid (((Below.refl _ w).alloc (Nat.le_refl _) (.cells #[.slice B nf c2] 43)).trans (hb.mono (by simp))); have X1 := Lib.hid (show w1.cell? ⟨w.heap.size, 0, none⟩ = some (.slice B nf c2) from (hb.cell (p := ⟨w.heap.size, 0, none⟩) (by simp)).trans (by simp only [World.cell?, heap_alloc_new]; rfl)); have S1 := Lib.hid (Nat.lt_of_lt_of_le (show w.heap.size < (w.alloc (.cells #[.slice B nf c2] 43)).heap.size by simp) hb.size); clear hb) | (go_at_call 79; refine (CB.out w1 B1.out X1.out S1.out).mono ?_; rintro e w2 ⟨rfl, hb⟩; have B2 := Lib.hid (B1.out.trans (hb.mono B1.out.size)); clear hb))
          refine bodyPost_ret (v := .bool false) (by simp [results, Tryd.results61, go_sem]) rfl ?_
          exact ⟨by rw [← RF.out]; rfl, B2.out⟩
        | true =>
          go_wp2_with (first | (go_at_call 77; refine (CA.out _ ((Below.refl _ w).alloc (Nat.le_refl _) _)).mono ?_; rintro e w1 ⟨rfl, hb⟩; have B1 := Lib.hid (((Below.refl _ w).alloc (Nat.le_refl _) (.cells #[.slice B nf c2] 43)).trans (hb.mono (by simp))); have X1 := Lib.hid (show w1.cell? ⟨w.heap.size, 0, none⟩ = some (.slice B nf c2) from (hb.cell (p := ⟨w.heap.size, 0, none⟩) (by simp)).trans (by simp only [World.cell?, heap_alloc_new]; rfl)); have S1 := Lib.hid (Nat.lt_of_lt_of_le (show w.heap.size < (w.alloc (.cells #[.slice B nf c2] 43)).heap.size by simp) hb.size); clear hb) | (go_at_call 79; refine (CB.out w1 B1.out X1.out S1.out).mono ?_; rintro e w2 ⟨rfl, hb⟩; have B2 := Lib.hid (B1.out.trans (hb.mono B1.out.size)); clear hb))
          refine bodyPost_ret (v := .bool true) (by simp [results, Tryd.results61, go_sem]) rfl ?_
          exact ⟨by rw [← RF.out]; rfl, B2.out⟩
    · have y1 : (nf : Int) ≤ 40 := by omega
      have y2 : ¬ (nr : Int) ≤ 100 := by omega
      have RF := Lib.hid (show false = R from by have := RE.out; simpa [h1, h2] using this)
      clear RE h1 h2
      go_wp2_with fail
      refine bodyPost_ret (v := .bool false) (by simp [results, Tryd.results61, go_sem]) rfl ?_
      exact ⟨by rw [← RF.out], ((Below.refl _ w).alloc (Nat.le_refl _) _)⟩
  · have y1 : ¬ (nf : Int) ≤ 40 := by omega
    have RF := Lib.hid (show false = R from by have := RE.out; simpa [h1] using this)
    clear RE h1
    go_wp2_with fail
    refine bodyPost_ret (v := .bool false) (by simp [results, Tryd.results61, go_sem]) rfl ?_
    exact ⟨by rw [← RF.out], ((Below.refl _ w).alloc (Nat.le_refl _) _)⟩
end Go.Proofs.YthakhdbakmlooaaDoor
