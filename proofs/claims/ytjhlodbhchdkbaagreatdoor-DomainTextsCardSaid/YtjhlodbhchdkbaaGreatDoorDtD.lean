/-
  The program's reading of a number and of a range.
-/
import Derived.Test.YtjhlodbhchdkbaaGreatDoorDtC
namespace Go.Proofs.YtjhlodbhchdkbaaGreatDoor
set_option linter.unusedSimpArgs false
set_option linter.unusedVariables false
open Go Go.RowKit Go.Lib Go.Ev

theorem cell_over {w w' : World} {a : Addr} {v : Value} (h : w.cell? a = some v) (k : Below w.heap.size w w') : w'.cell? a = some v := by
  have lt : a.block < w.heap.size := by
    rcases Nat.lt_or_ge a.block w.heap.size with h' | h'
    · exact h'
    · simp [World.cell?, Array.getElem?_eq_none h'] at h
  exact (k.cell lt).trans h
theorem tabIs_over {n : String} {g : Nat} {k : IntKind} {zs : List Int} {w w' : World} (hg : Tryz.prog.globalNamed n = some g) (h : Lib.TabIs Tryz.prog w n k zs) (hb : Below w.heap.size w w') : Lib.TabIs Tryz.prog w' n k zs := by
  unfold Lib.TabIs World.var? at *
  rw [hg] at h ⊢
  simp only [Option.bind_some] at h ⊢
  have lt : g < w.heap.size := by
    rcases Nat.lt_or_ge g w.heap.size with h' | h'
    · exact h'
    · simp [Array.getElem?_eq_none h'] at h
  rw [hb.block g lt]
  exact h
/-- what the library's calls read lies as it is laid -/
def LibD (w : World) : Prop := (∃ m, w.cell? ⟨3, 0, none⟩ = some (.int .i64 m)) ∧ PowIn w ∧
  (∃ tp p, w.cell? ⟨5, 0, none⟩ = some (.iface tp p)) ∧ (∃ tp p, w.cell? ⟨6, 0, none⟩ = some (.iface tp p))
theorem LibD.over {w w' : World} (h : LibD w) (k : Below w.heap.size w w') : LibD w' := by
  obtain ⟨⟨m, h1⟩, h2, ⟨t1, p1, h4⟩, ⟨t2, p2, h5⟩⟩ := h
  exact ⟨⟨m, cell_over h1 k⟩, tabIs_over (g := 0) (by kernel_rfl) h2 k, ⟨t1, p1, cell_over h4 k⟩, ⟨t2, p2, cell_over h5 k⟩⟩
theorem drewN_belowX (W : World) (k : Nat) : Below W.heap.size W (W.drewN k) := ⟨rfl, rfl, rfl, Nat.le_refl _, fun _ _ => rfl⟩
theorem cut_any (l q : List UInt8) (h1 : l.length ≤ 1000000) (w : World) (h : LibD w) :
    Calls Tryz.prog 29 #[.string (st l), .string (st q)] w fun e w' => e = .returned (.tuple #[.string (st (Lib.cut l q).1), .string (st (Lib.cut l q).2.1), .bool (Lib.cut l q).2.2]) ∧ Below w.heap.size w w' := by
  obtain ⟨⟨m, hm⟩, _⟩ := h
  refine (Tryz.strings_Cut (st l) (st q) m w (by rw [st_size]; omega) hm).mono ?_
  rintro e w' ⟨rfl, n, rfl⟩
  rw [st_data, st_data]
  exact ⟨rfl, drewN_belowX w n⟩
def okA (l : List UInt8) : Bool := match Lib.atoiAll l with
  | .ok _ => true
  | _ => false
theorem atoi_any (l : List UInt8) (h1 : l.length ≤ 1000000) (w : World) (h : LibD w) :
    Calls Tryz.prog 49 #[.string (st l)] w fun e w' => (∃ v, e = .returned (.tuple #[.int .i64 (rdW l), v]) ∧ ((okA l = true ∧ v = .nilIface) ∨ (okA l = false ∧ ∃ t p, v = .iface t p))) ∧ Below w.heap.size w w' := by
  obtain ⟨_, _, ⟨t1, p1, h4⟩, ⟨t2, p2, h5⟩⟩ := h
  unfold rdW okA
  rcases ha : Lib.atoiAll l with v | _ | _
  · refine (Tryz.strconv_Atoi_ok (st l) (by rw [st_size]; omega) v (by rw [st_data]; exact ha) w).mono ?_
    rintro e w' ⟨rfl, rfl | ⟨t, rfl⟩⟩
    · exact ⟨⟨_, rfl, Or.inl ⟨rfl, rfl⟩⟩, Below.refl _ _⟩
    · exact ⟨⟨_, rfl, Or.inl ⟨rfl, rfl⟩⟩, ⟨rfl, rfl, rfl, by rw [Lib.bytesWorld_size]; omega, fun k hk => Lib.bytesWorld_at_old _ _ _ k (by omega)⟩⟩
  · refine (Any.strconv_Atoi_syntax Tryz.laysC172 (st l) (by rw [st_size]; omega) (by rw [st_data]; exact ha) _ w h4 (Or.inr ⟨t1, p1, rfl⟩)).mono ?_
    rintro e w' ⟨N, rfl, _, _, hb⟩
    exact ⟨⟨_, rfl, Or.inr ⟨rfl, _, _, rfl⟩⟩, hb⟩
  · refine (Tryz.strconv_Atoi_range (st l) (by rw [st_size]; omega) (by rw [st_data]; exact ha) _ w h5 (Or.inr ⟨t2, p2, rfl⟩)).mono ?_
    rintro e w' ⟨N, rfl, _, _, hb⟩
    rw [st_data]
    exact ⟨⟨_, rfl, Or.inr ⟨rfl, _, _, rfl⟩⟩, hb⟩
theorem numB_bad {l : List UInt8} (h : okA l = false) : numB l = false := by
  unfold okA at h
  unfold numB
  rcases ha : Lib.atoiAll l with v | _ | _
  · rw [ha] at h; cases h
  · rfl
  · rfl
theorem numB_ok {l : List UInt8} (h : okA l = true) : numB l = (decide (0 ≤ rdW l) && decide (rdW l ≤ 1000) && decide (dec (rdW l).toNat = l)) := by
  unfold okA at h
  unfold numB rdW
  rcases ha : Lib.atoiAll l with v | _ | _
  · rfl
  · rw [ha] at h; cases h
  · rw [ha] at h; cases h
set_option maxRecDepth 100000 in
set_option maxHeartbeats 4000000 in
theorem parseNumber_any (l : List UInt8) (h1 : l.length ≤ 1000000) (w : World) (h : LibD w) :
    Calls Tryz.prog 30 #[.string (st l)] w fun e w' => e = .returned (.tuple #[.int .i64 (rdW l), .bool (numB l)]) ∧ Below w.heap.size w w' := by
  have AT := Lib.hid (atoi_any l h1 w h)
  have HI := Lib.hid (fun n (hn : n ≤ 1000) w1 (k : Below w.heap.size w w1) => itoa_any hn w1 (h.over k).2.1)
  clear h h1
  cases ho : okA l with
  | false =>
    rw [numB_bad ho]
    replace AT := Lib.hid (AT.out.mono (show ∀ e w', _ → (∃ t p, e = .returned (.tuple #[.int .i64 (rdW l), .iface t p])) ∧ Below w.heap.size w w' from fun e w' h => by
      obtain ⟨⟨v, rfl, ⟨hx, _⟩ | ⟨_, t, p, rfl⟩⟩, hb⟩ := h
      · rw [ho] at hx; cases hx
      · exact ⟨⟨t, p, rfl⟩, hb⟩))
    go_enter Tryz.func30, Tryz.ntmps30
    go_wp2_with (go_at_call 49; refine AT.out.mono ?_; rintro e w1 ⟨⟨t, p, rfl⟩, hb⟩; have HB := Lib.hid hb; clear hb AT HI)
    refine bodyPost_ret (v := .tuple #[.int .i64 (rdW l), .bool false]) (by simp [results, Tryz.results30, go_sem]) rfl ?_
    exact ⟨rfl, HB.out⟩
  | true =>
    replace AT := Lib.hid (AT.out.mono (show ∀ e w', _ → e = .returned (.tuple #[.int .i64 (rdW l), .nilIface]) ∧ Below w.heap.size w w' from fun e w' h => by
      obtain ⟨⟨v, rfl, ⟨_, rfl⟩ | ⟨hx, _⟩⟩, hb⟩ := h
      · exact ⟨rfl, hb⟩
      · rw [ho] at hx; cases hx))
    have HN := Lib.hid (numB_ok ho)
    rw [HN.out]
    by_cases c1 : 0 ≤ rdW l
    · by_cases c2 : rdW l ≤ 1000
      · obtain ⟨n, hn⟩ : ∃ n : Nat, rdW l = n := ⟨(rdW l).toNat, by omega⟩
        have hn1 : n ≤ 1000 := by omega
        rw [hn] at AT ⊢
        have IT := Lib.hid (HI.out n hn1)
        obtain ⟨b, hb0⟩ : ∃ b, decide (dec n = l) = b := ⟨_, rfl⟩
        have zb : ((st (dec n)).toList == (st l).toList) = b := by
          rw [← hb0, ByteArray.toList_eq, ByteArray.toList_eq, st_data, st_data]
          by_cases e : dec n = l <;> simp [e]
        have e1 : (decide ((0 : Int) ≤ (n : Int)) && decide ((n : Int) ≤ 1000) && decide (dec ((n : Int)).toNat = l)) = b := by
          rw [decide_eq_true (by omega), decide_eq_true (by omega), Int.toNat_natCast, hb0]; rfl
        rw [e1]
        have z1 : (0 : Int) ≤ (n : Int) := by omega
        have z2 : (n : Int) ≤ 1000 := by omega
        clear c1 c2 hn hn1 HN HI e1 hb0
        generalize st (dec n) = S at *
        go_enter Tryz.func30, Tryz.ntmps30
        go_wp2_with (first | (go_at_call 49; refine AT.out.mono ?_; rintro e w1 ⟨rfl, hb⟩; have HB := Lib.hid hb; clear hb AT) | (go_at_call 14; refine (IT.out _ HB.out).mono ?_; rintro e w2 ⟨rfl, hb⟩; have HC := Lib.hid (HB.out.trans (hb.mono HB.out.size)); clear hb IT))
        refine bodyPost_ret (v := .tuple #[.int .i64 (n : Int), .bool b]) (by simp [results, Tryz.results30, go_sem]) rfl ?_
        exact ⟨rfl, HC.out⟩
      · rw [decide_eq_false c2, Bool.and_false, Bool.false_and]
        clear HI HN
        go_enter Tryz.func30, Tryz.ntmps30
        go_wp2_with (go_at_call 49; refine AT.out.mono ?_; rintro e w1 ⟨rfl, hb⟩; have HB := Lib.hid hb; clear hb AT)
        refine bodyPost_ret (v := .tuple #[.int .i64 (rdW l), .bool false]) (by simp [results, Tryz.results30, go_sem]) rfl ?_
        exact ⟨rfl, HB.out⟩
    · rw [decide_eq_false c1, Bool.false_and, Bool.false_and]
      clear HI HN
      go_enter Tryz.func30, Tryz.ntmps30
      go_wp2_with (go_at_call 49; refine AT.out.mono ?_; rintro e w1 ⟨rfl, hb⟩; have HB := Lib.hid hb; clear hb AT)
      refine bodyPost_ret (v := .tuple #[.int .i64 (rdW l), .bool false]) (by simp [results, Tryz.results30, go_sem]) rfl ?_
      exact ⟨rfl, HB.out⟩
end Go.Proofs.YtjhlodbhchdkbaaGreatDoor
