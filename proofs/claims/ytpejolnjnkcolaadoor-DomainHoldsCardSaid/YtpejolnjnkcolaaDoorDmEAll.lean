/-
  Whether a propagator holds: the document's own answer.
-/
import Derived.Test.YtpejolnjnkcolaaDoorDmF
import Derived.Test.YtpejolnjnkcolaaDoorDmDSum
import Derived.Test.YtpejolnjnkcolaaDoorDmDMost
import Derived.Test.YtpejolnjnkcolaaDoorDmDDistinct
import Derived.Test.YtpejolnjnkcolaaDoorDmDUnlike
import Derived.Test.YtpejolnjnkcolaaDoorDmE
import Derived.Test.YtpejolnjnkcolaaDoorDmDProduct
import Derived.Test.YtpejolnjnkcolaaDoorDmDMax
import Derived.Test.YtpejolnjnkcolaaDoorDmDReify
import Derived.Test.YtpejolnjnkcolaaDoorDmDElement
import Derived.Test.YtpejolnjnkcolaaDoorDmDApart
namespace Go.Proofs.YtpejolnjnkcolaaDoor
open Go Go.RowKit Go.Ev

def sOrc (c : Int) : Orc := fun k args _ => match args with
  | [.chan (some 3), .chan (some 0)] => if Nat.beq k 45 then some (.agg ⟨[.chan (some 5), .chan (some 6)]⟩) else none
  | [.agg ⟨[.chan (some 5), .chan (some 6)]⟩, .chan (some 4)] => if Nat.beq k 44 then some (.int .i64 c) else none
  | _ => none
theorem sOrc_ok {w0 : W0} {cs L : List Int} {n : Int} {B G : Option Addr} {c2 cap : Nat} (hm : 6 < w0.m) (e3 : w0.env 3 = .slice B cs.length c2) (e0 : w0.env 0 = .slice G L.length cap) (e4 : w0.env 4 = .int .i64 n)
    (e5 : w0.env 5 = .int .i64 (dot cs L / 4294967296)) (e6 : w0.env 6 = .int .i64 (dot cs L % 4294967296)) (hB : Ints w0.w B cs) (hG : Ints w0.w G L) (hl : L.length ≤ cs.length) (hn : L.length ≤ 100) (hc : ∀ x ∈ cs, -1000000 ≤ x ∧ x ≤ 1000000) (rn : -9223372036854775808 ≤ n ∧ n ≤ 9223372036854775807) :
    OrcOk Tryd.prog w0 (sOrc (sgn (dot cs L - n))) := by
  intro k args st v h φ args' w H hlr
  have sy := H.sym
  unfold sOrc at h
  split at h
  · split at h
    · rename_i hk
      obtain rfl := Nat.eq_of_beq_eq_true hk
      cases h
      obtain ⟨x, y, rfl, hx, hy⟩ := lr2 hlr
      rw [one_sym sy hx, one_sym sy hy, e3, e0]
      refine ⟨fun w => enters Tryd.func45 (by decide +kernel) (by kernel_rfl) _ w, Calls.mono (total_any cs L B G c2 cap w (hB.over H.below) (hG.over H.below) hl hn hc) ?_⟩
      rintro e w' ⟨rfl, hb⟩
      refine ⟨⟨_, rfl, ?_⟩, hb⟩
      unfold wideV
      have v5 := VR.sym sy (r := 5) (by omega)
      have v6 := VR.sym sy (r := 6) (by omega)
      rw [e5] at v5
      rw [e6] at v6
      exact VR.agg_iff.2 (LR.cons v5 (LR.cons v6 LR.nil))
    · cases h
  · split at h
    · rename_i hk
      obtain rfl := Nat.eq_of_beq_eq_true hk
      cases h
      obtain ⟨x, y, rfl, hx, hy⟩ := lr2 hlr
      rw [agg2 sy hx, one_sym sy hy, e4, e5, e6]
      refine ⟨fun w => enters Tryd.func44 (by decide +kernel) (by kernel_rfl) _ w, Calls.mono (compare_any (dot cs L) n w (dot_bound hl hn hc hG.2.1) rn) ?_⟩
      rintro e w' ⟨rfl, hb⟩
      exact ⟨⟨_, rfl, .leaf rfl⟩, hb⟩
    · cases h
  · cases h

set_option maxRecDepth 100000 in
set_option maxHeartbeats 8000000 in
theorem ho_sum (x : ByteArray) (vs cs us : List Int) (n : Int) (A B D : Option Addr) (c1 c2 c3 : Nat) (w : World) (hx : x.toList = [115, 117, 109]) (ha : Ints w A vs) (hb : Ints w B cs) (hd : Ints w D us) (hcc : cs.length ≤ c2) (hn : -9223372036854775808 ≤ n ∧ n ≤ 9223372036854775807) :
    Calls Tryd.prog 26 #[.agg #[.string x, .slice A vs.length c1, .slice B cs.length c2, .int .i64 n], .slice D us.length c3] w fun e w' => e = .returned (.bool (vpCore vs.length vs.length vs.length true false true vs cs n us.length && decide (dot cs (pick vs us) = n))) ∧ Below w.heap.size w w' := by
  have VP := Lib.hid (fun w' (h : Below w.heap.size w w') => vp_sum x vs cs n us.length A B c1 c2 w' hx (ha.over h) (hb.over h) (by have := hd.1; omega))
  have HD := Lib.hid hd
  have HA0 := Lib.hid ha
  have HB0 := Lib.hid hb
  obtain ⟨ha1, ha2, ha3⟩ := ha
  obtain ⟨hb1, hb2, hb3⟩ := hb
  obtain ⟨hd1, hd2, hd3⟩ := hd
  have k_sum : (x.toList == [115, 117, 109]) = true := by rw [hx]; rfl
  have k_most : (x.toList == [109, 111, 115, 116]) = false := by rw [hx]; rfl
  have k_distinct : (x.toList == [100, 105, 115, 116, 105, 110, 99, 116]) = false := by rw [hx]; rfl
  have k_unlike : (x.toList == [117, 110, 108, 105, 107, 101]) = false := by rw [hx]; rfl
  have k_product : (x.toList == [112, 114, 111, 100, 117, 99, 116]) = false := by rw [hx]; rfl
  have k_max : (x.toList == [109, 97, 120]) = false := by rw [hx]; rfl
  have k_reify : (x.toList == [114, 101, 105, 102, 121]) = false := by rw [hx]; rfl
  have k_element : (x.toList == [101, 108, 101, 109, 101, 110, 116]) = false := by rw [hx]; rfl
  have k_apart : (x.toList == [97, 112, 97, 114, 116]) = false := by rw [hx]; rfl
  clear hx
  generalize hV : vpCore vs.length vs.length vs.length true false true vs cs n us.length = V at VP
  generalize hW : decide (dot cs (pick vs us) = n) = W
  have VF := Lib.hid (fun e : V = true => vp_facts (hV.trans e))
  have HW := Lib.hid hW
  have HA := Lib.hid ha3
  have HB := Lib.hid hb3
  have HU := Lib.hid hd3
  have HU2 := Lib.hid hd2
  clear hV hW ha2 hb2 hd2 ha3 hb3 hd3
  have B0 := Lib.hid (show ∀ o, Below w.heap.size w (w.alloc o) from fun o => (Below.refl _ _).alloc (Nat.le_refl _) _)
  obtain ⟨i0, hi, hz0, hz1, hz2⟩ := info_parts infoI
  go_enter Tryd.func26, Tryd.ntmps26
  go_wp2_with fail
  refine (VP.out _ (B0.out _)).mono ?_
  rintro e w1 ⟨rfl, hb⟩
  have hbx : w1.heap[w.heap.size]? = some (.cells #[.string x, .slice A vs.length c1, .slice B cs.length c2, .int .i64 n] 37 (0, 0)) := (hb.block w.heap.size (by simp)).trans (by show (w.heap.push _)[w.heap.size]? = _; simp)
  have hbW := (B0.out (.cells #[.string x, .slice A vs.length c1, .slice B cs.length c2, .int .i64 n] 37)).trans (hb.mono (by simp))
  have HB1 := Lib.hid hbW
  have HX1 := Lib.hid hbx
  have hs1 := lt_of_block hbx
  clear hb hbW hbx VP
  cases V with
  | false =>
    go_wp2_with fail
    go_ret
    exact ⟨rfl, HB1.out⟩
  | true =>
    obtain ⟨⟨t1, t2, t3, t4, t5, t6⟩, vr, cr, nr⟩ := VF.out rfl
    have T4 := Lib.hid t4
    have VR := Lib.hid vr
    have CR := Lib.hid cr
    have NR := Lib.hid nr
    clear t4 vr cr nr VF
    go_wp2_with fail
    go_loopw [5, 6] (fun l i wr => ∃ (k : Nat) (G : Option Addr) (cap : Nat), k ≤ vs.length ∧ i = .int .i64 k ∧ l = .slice G k cap ∧ wr.ownsRow (w.heap.size + 1) 3 1 (.slice G k cap) k (((pick vs us).take k).map (Value.int .i64)) ∧ Below w.heap.size w wr ∧ wr.heap[w.heap.size]? = some (.cells #[.string x, .slice A vs.length c1, .slice B cs.length c2, .int .i64 n] 37 (0, 0))) (fun _ i _ => vs.length - (intOf i).toNat)
    case atStart => exact ⟨0, none, 0, Nat.zero_le _, rfl, rfl, by simpa using World.ownsRow_nil _ _ _ _, HB1.out, HX1.out⟩
    case round =>
      obtain ⟨k, G, cap, hk, rfl, rfl, hown, hbw, hbx⟩ := hrel
      have hsz := lt_of_block hbx
      have d0 : wr.cell? ⟨w.heap.size, 0, none⟩ = some (.string x) := by simp [World.cell?, hbx]
      have d1 : wr.cell? ⟨w.heap.size, 1, none⟩ = some (.slice A vs.length c1) := by simp [World.cell?, hbx]
      have d2 : wr.cell? ⟨w.heap.size, 2, none⟩ = some (.slice B cs.length c2) := by simp [World.cell?, hbx]
      have d3 : wr.cell? ⟨w.heap.size, 3, none⟩ = some (.int .i64 n) := by simp [World.cell?, hbx]
      have HO := Lib.hid hown
      have HBW := Lib.hid hbw
      have HBX := Lib.hid hbx
      clear hown hbw hbx HB1 HX1
      by_cases hlt : k < vs.length
      · obtain ⟨b1, o1, eA, hb1', f1⟩ := HA.out (by omega)
        rw [eA] at d1
        have EA := Lib.hid eA
        clear eA
        have x1 := (HBW.out.cell (p := ⟨b1, o1 + k, none⟩) hb1').trans (f1 k hlt)
        have hv := VR.out k hlt
        have hvlt : (vs[k]).toNat < us.length := by omega
        obtain ⟨b2, o2, rfl, hb2', f2⟩ := HU.out (by omega)
        have x2 := (HBW.out.cell (p := ⟨b2, o2 + (vs[k]).toNat, none⟩) hb2').trans (f2 _ hvlt)
        have PK := Lib.hid (show (pick vs us).take (k + 1) = (pick vs us).take k ++ [us[(vs[k]).toNat]] by
          rw [List.take_succ_eq_append_getElem (by simp [pick]; omega)]
          simp [pick, nthI, List.getD_eq_getElem?_getD, List.getElem?_eq_getElem hvlt])
        generalize us[(vs[k]).toNat] = u at *
        generalize vs[k] = v at *
        obtain ⟨q, rfl⟩ : ∃ q : Nat, v = q := ⟨v.toNat, by omega⟩
        simp only [Int.toNat_natCast] at x2 hvlt
        clear f1 f2 HA HU VR HW
        have z3 : (k : Int) < (vs.length : Int) := by omega
        have z4 : (0 : Int) ≤ (k : Int) := by omega
        have z5 : (q : Int) < (us.length : Int) := by omega
        have z6 : (0 : Int) ≤ (q : Int) := by omega
        have hlen : (((pick vs us).take k).map (Value.int .i64)).length = k := by simp [pick]; omega
        go_wp2_with (at_builtin; refine wpList_append_own _ rfl _ _ 23 rfl (w.heap.size + 1) 3 i0 (.int .i64 0) 1 8 Tryd.underlying23 hi hz0 hz1 hz2 rfl (by decide) _ _ _ rfl (HO.out.alloc _) ⟨wr.heap.size, 0, none⟩ 1 1 [.int .i64 u] rfl rfl ?c1 ?c2 ?c3 ?c4 ?c5 ?_)
        case c1 =>
          intro j z hj
          match j, hj with
          | 0, hj => simp at hj; subst hj; simp [Addr.add]
        case c2 => intro z hz; simp at hz; subst hz; rfl
        case c3 => unfold maxLen; omega
        case c4 => omega
        case c5 => simp; omega
        intro v' w2 hown' hgrow _
        obtain ⟨A', cap', hv'⟩ : ∃ A' cap', v' = .slice A' (k + 1) cap' := by
          rcases hown'.2 with ⟨_, hz⟩ | ⟨g, cap, cur, hv, _⟩
          · omega
          · exact ⟨some ⟨g, 0, none⟩, cap, by rw [hv]⟩
        have hb2 : Below w.heap.size w w2 := (HBW.out.alloc HBW.out.size _).grown hgrow (by simp; omega) (fun j hj => by have := (HO.out.lt j hj).1; omega)
        have hbx2 : w2.heap[w.heap.size]? = some (.cells #[.string x, .slice A vs.length c1, .slice B cs.length c2, .int .i64 n] 37 (0, 0)) := by
          have hb3 : Below (w.heap.size + 1) wr w2 := ((Below.refl _ wr).alloc (by omega) _).grown hgrow (by simp; omega) (fun j hj => (HO.out.lt j hj).1)
          exact (hb3.block _ (by omega)).trans HBX.out
        have OW := Lib.hid (show w2.ownsRow (w.heap.size + 1) 3 1 (.slice A' (k + 1) cap') (k + 1) (((pick vs us).take (k + 1)).map (Value.int .i64)) by rw [← hv', PK.out]; simpa using hown')
        have VV := Lib.hid hv'
        have HB2 := Lib.hid hb2
        have HX2 := Lib.hid hbx2
        clear hown' hgrow hv' hb2 hbx2
        go_wp2_with fail
        go_roundw
        case rel => exact ⟨k + 1, A', cap', by omega, by go_num, VV.out, OW.out, HB2.out, HX2.out⟩
        case measure => simp [intOf]; omega
      · obtain rfl : k = vs.length := by omega
        have hlt' : decide ((vs.length : Int) < (vs.length : Int)) = false := by simp
        have rng := pick_range (vs := vs) HU2.out
        have ho := HO.out
        have hw := HW.out
        rw [List.take_of_length_le (by simp [pick])] at ho
        obtain ⟨g, rfl, hcap, hgb, hgs, hrow⟩ := own_at ho (by omega)
        have cl := (show (pick vs us).length = vs.length by simp [pick])
        have ig := ints_row (l := pick vs us) rng (by omega) hgs hrow
        have IB := HB0.out.over HBW.out
        have HRW := Lib.hid hrow
        subst hw
        clear hrow ho  rng HW HO 
        go_wp2_with fail
        refine reg_ok mixed (w0 := (iW wr [.slice (some ⟨g, 0, none⟩) vs.length cap, .string x, .slice A vs.length c1, .slice B cs.length c2, .int .i64 n, .int .i64 (dot cs (pick vs us) / 4294967296), .int .i64 (dot cs (pick vs us) % 4294967296)] (by intro v hv; simp at hv; rcases hv with rfl | rfl | rfl | rfl | rfl | rfl | rfl <;> exact ⟨rfl, rfl⟩))) (lift_ok2 (noOpO_ok _ _) (sOrc_ok (B := B) (G := some ⟨g, 0, none⟩) (c2 := c2) (cap := cap) (n := n) (by show 6 < 7; decide) rfl (by rw [cl]; rfl) rfl rfl rfl IB ig (by omega) (by omega) CR.out hn)) (f := frOf 200 [(5, .chan (some 0)), (2, .pointer (some ⟨7, 0, none⟩))]) (t := 4) (v := .bool (decide (dot cs (pick vs us) = n))) rfl ?_ (HR.rows _ [⟨w.heap.size, 0, [.chan (some 1), .chan (some 2), .chan (some 3), .chan (some 4)], [.string x, .slice A vs.length c1, .slice B cs.length c2, .int .i64 n]⟩] ?_) (frOf_ok rfl rfl ?_) ?_
        · rcases sgn_cases (dot cs (pick vs us) - n) with ⟨hs, e⟩ | ⟨hs, e⟩ | ⟨hs, e⟩
          · rw [e, show decide (dot cs (pick vs us) = n) = false by simp; omega]; kernel_rfl
          · rw [e, show decide (dot cs (pick vs us) = n) = true by simp; omega]; kernel_rfl
          · rw [e, show decide (dot cs (pick vs us) = n) = false by simp; omega]; kernel_rfl
        · have sy := rowsφ_sy (iW wr [.slice (some ⟨g, 0, none⟩) vs.length cap, .string x, .slice A vs.length c1, .slice B cs.length c2, .int .i64 n, .int .i64 (dot cs (pick vs us) / 4294967296), .int .i64 (dot cs (pick vs us) % 4294967296)] (by intro v hv; simp at hv; rcases hv with rfl | rfl | rfl | rfl | rfl | rfl | rfl <;> exact ⟨rfl, rfl⟩)) [⟨w.heap.size, 0, [.chan (some 1), .chan (some 2), .chan (some 3), .chan (some 4)], [.string x, .slice A vs.length c1, .slice B cs.length c2, .int .i64 n]⟩]
          intro y hy
          simp only [List.mem_cons, List.not_mem_nil, or_false] at hy
          rcases hy with rfl
          · exact ⟨(LR.cons (sym_i sy (by simp)) (LR.cons (sym_i sy (by simp)) (LR.cons (sym_i sy (by simp)) (LR.cons (sym_i sy (by simp)) (LR.nil))))), hsz, _, _, _, HBX.out, by simp, by simp⟩
        · have sy := rowsφ_sy (iW wr [.slice (some ⟨g, 0, none⟩) vs.length cap, .string x, .slice A vs.length c1, .slice B cs.length c2, .int .i64 n, .int .i64 (dot cs (pick vs us) / 4294967296), .int .i64 (dot cs (pick vs us) % 4294967296)] (by intro v hv; simp at hv; rcases hv with rfl | rfl | rfl | rfl | rfl | rfl | rfl <;> exact ⟨rfl, rfl⟩)) [⟨w.heap.size, 0, [.chan (some 1), .chan (some 2), .chan (some 3), .chan (some 4)], [.string x, .slice A vs.length c1, .slice B cs.length c2, .int .i64 n]⟩]
          intro y hy
          simp only [List.mem_cons, List.not_mem_nil, or_false] at hy
          rcases hy with rfl | rfl
          · exact sym_i sy (r := 0) (by simp)
          · exact row_ptr (w0 := (iW wr [.slice (some ⟨g, 0, none⟩) vs.length cap, .string x, .slice A vs.length c1, .slice B cs.length c2, .int .i64 n, .int .i64 (dot cs (pick vs us) / 4294967296), .int .i64 (dot cs (pick vs us) % 4294967296)] (by intro v hv; simp at hv; rcases hv with rfl | rfl | rfl | rfl | rfl | rfl | rfl <;> exact ⟨rfl, rfl⟩))) (rs := [⟨w.heap.size, 0, [.chan (some 1), .chan (some 2), .chan (some 3), .chan (some 4)], [.string x, .slice A vs.length c1, .slice B cs.length c2, .int .i64 n]⟩]) (i := 0) rfl 0
        · intro a' w' h1 h2 h3
          go_wp2_with fail
          exact bodyPost_ret (results_tmp rfl _ _ _) h2 ⟨by rw [h1, Bool.true_and], HBW.out.trans (h3.mono HBW.out.size)⟩
end Go.Proofs.YtpejolnjnkcolaaDoor

/-
  Whether a propagator holds: the document's own answer.
-/
namespace Go.Proofs.YtpejolnjnkcolaaDoor
open Go Go.RowKit Go.Ev

set_option maxRecDepth 100000 in
set_option maxHeartbeats 8000000 in
theorem ho_most (x : ByteArray) (vs cs us : List Int) (n : Int) (A B D : Option Addr) (c1 c2 c3 : Nat) (w : World) (hx : x.toList = [109, 111, 115, 116]) (ha : Ints w A vs) (hb : Ints w B cs) (hd : Ints w D us) (hcc : cs.length ≤ c2) (hn : -9223372036854775808 ≤ n ∧ n ≤ 9223372036854775807) :
    Calls Tryd.prog 26 #[.agg #[.string x, .slice A vs.length c1, .slice B cs.length c2, .int .i64 n], .slice D us.length c3] w fun e w' => e = .returned (.bool (vpCore vs.length vs.length vs.length true false true vs cs n us.length && decide (dot cs (pick vs us) ≤ n))) ∧ Below w.heap.size w w' := by
  have VP := Lib.hid (fun w' (h : Below w.heap.size w w') => vp_most x vs cs n us.length A B c1 c2 w' hx (ha.over h) (hb.over h) (by have := hd.1; omega))
  have HD := Lib.hid hd
  have HA0 := Lib.hid ha
  have HB0 := Lib.hid hb
  obtain ⟨ha1, ha2, ha3⟩ := ha
  obtain ⟨hb1, hb2, hb3⟩ := hb
  obtain ⟨hd1, hd2, hd3⟩ := hd
  have k_sum : (x.toList == [115, 117, 109]) = false := by rw [hx]; rfl
  have k_most : (x.toList == [109, 111, 115, 116]) = true := by rw [hx]; rfl
  have k_distinct : (x.toList == [100, 105, 115, 116, 105, 110, 99, 116]) = false := by rw [hx]; rfl
  have k_unlike : (x.toList == [117, 110, 108, 105, 107, 101]) = false := by rw [hx]; rfl
  have k_product : (x.toList == [112, 114, 111, 100, 117, 99, 116]) = false := by rw [hx]; rfl
  have k_max : (x.toList == [109, 97, 120]) = false := by rw [hx]; rfl
  have k_reify : (x.toList == [114, 101, 105, 102, 121]) = false := by rw [hx]; rfl
  have k_element : (x.toList == [101, 108, 101, 109, 101, 110, 116]) = false := by rw [hx]; rfl
  have k_apart : (x.toList == [97, 112, 97, 114, 116]) = false := by rw [hx]; rfl
  clear hx
  generalize hV : vpCore vs.length vs.length vs.length true false true vs cs n us.length = V at VP
  generalize hW : decide (dot cs (pick vs us) ≤ n) = W
  have VF := Lib.hid (fun e : V = true => vp_facts (hV.trans e))
  have HW := Lib.hid hW
  have HA := Lib.hid ha3
  have HB := Lib.hid hb3
  have HU := Lib.hid hd3
  have HU2 := Lib.hid hd2
  clear hV hW ha2 hb2 hd2 ha3 hb3 hd3
  have B0 := Lib.hid (show ∀ o, Below w.heap.size w (w.alloc o) from fun o => (Below.refl _ _).alloc (Nat.le_refl _) _)
  obtain ⟨i0, hi, hz0, hz1, hz2⟩ := info_parts infoI
  go_enter Tryd.func26, Tryd.ntmps26
  go_wp2_with fail
  refine (VP.out _ (B0.out _)).mono ?_
  rintro e w1 ⟨rfl, hb⟩
  have hbx : w1.heap[w.heap.size]? = some (.cells #[.string x, .slice A vs.length c1, .slice B cs.length c2, .int .i64 n] 37 (0, 0)) := (hb.block w.heap.size (by simp)).trans (by show (w.heap.push _)[w.heap.size]? = _; simp)
  have hbW := (B0.out (.cells #[.string x, .slice A vs.length c1, .slice B cs.length c2, .int .i64 n] 37)).trans (hb.mono (by simp))
  have HB1 := Lib.hid hbW
  have HX1 := Lib.hid hbx
  have hs1 := lt_of_block hbx
  clear hb hbW hbx VP
  cases V with
  | false =>
    go_wp2_with fail
    go_ret
    exact ⟨rfl, HB1.out⟩
  | true =>
    obtain ⟨⟨t1, t2, t3, t4, t5, t6⟩, vr, cr, nr⟩ := VF.out rfl
    have T4 := Lib.hid t4
    have VR := Lib.hid vr
    have CR := Lib.hid cr
    have NR := Lib.hid nr
    clear t4 vr cr nr VF
    go_wp2_with fail
    go_loopw [5, 6] (fun l i wr => ∃ (k : Nat) (G : Option Addr) (cap : Nat), k ≤ vs.length ∧ i = .int .i64 k ∧ l = .slice G k cap ∧ wr.ownsRow (w.heap.size + 1) 3 1 (.slice G k cap) k (((pick vs us).take k).map (Value.int .i64)) ∧ Below w.heap.size w wr ∧ wr.heap[w.heap.size]? = some (.cells #[.string x, .slice A vs.length c1, .slice B cs.length c2, .int .i64 n] 37 (0, 0))) (fun _ i _ => vs.length - (intOf i).toNat)
    case atStart => exact ⟨0, none, 0, Nat.zero_le _, rfl, rfl, by simpa using World.ownsRow_nil _ _ _ _, HB1.out, HX1.out⟩
    case round =>
      obtain ⟨k, G, cap, hk, rfl, rfl, hown, hbw, hbx⟩ := hrel
      have hsz := lt_of_block hbx
      have d0 : wr.cell? ⟨w.heap.size, 0, none⟩ = some (.string x) := by simp [World.cell?, hbx]
      have d1 : wr.cell? ⟨w.heap.size, 1, none⟩ = some (.slice A vs.length c1) := by simp [World.cell?, hbx]
      have d2 : wr.cell? ⟨w.heap.size, 2, none⟩ = some (.slice B cs.length c2) := by simp [World.cell?, hbx]
      have d3 : wr.cell? ⟨w.heap.size, 3, none⟩ = some (.int .i64 n) := by simp [World.cell?, hbx]
      have HO := Lib.hid hown
      have HBW := Lib.hid hbw
      have HBX := Lib.hid hbx
      clear hown hbw hbx HB1 HX1
      by_cases hlt : k < vs.length
      · obtain ⟨b1, o1, eA, hb1', f1⟩ := HA.out (by omega)
        rw [eA] at d1
        have EA := Lib.hid eA
        clear eA
        have x1 := (HBW.out.cell (p := ⟨b1, o1 + k, none⟩) hb1').trans (f1 k hlt)
        have hv := VR.out k hlt
        have hvlt : (vs[k]).toNat < us.length := by omega
        obtain ⟨b2, o2, rfl, hb2', f2⟩ := HU.out (by omega)
        have x2 := (HBW.out.cell (p := ⟨b2, o2 + (vs[k]).toNat, none⟩) hb2').trans (f2 _ hvlt)
        have PK := Lib.hid (show (pick vs us).take (k + 1) = (pick vs us).take k ++ [us[(vs[k]).toNat]] by
          rw [List.take_succ_eq_append_getElem (by simp [pick]; omega)]
          simp [pick, nthI, List.getD_eq_getElem?_getD, List.getElem?_eq_getElem hvlt])
        generalize us[(vs[k]).toNat] = u at *
        generalize vs[k] = v at *
        obtain ⟨q, rfl⟩ : ∃ q : Nat, v = q := ⟨v.toNat, by omega⟩
        simp only [Int.toNat_natCast] at x2 hvlt
        clear f1 f2 HA HU VR HW
        have z3 : (k : Int) < (vs.length : Int) := by omega
        have z4 : (0 : Int) ≤ (k : Int) := by omega
        have z5 : (q : Int) < (us.length : Int) := by omega
        have z6 : (0 : Int) ≤ (q : Int) := by omega
        have hlen : (((pick vs us).take k).map (Value.int .i64)).length = k := by simp [pick]; omega
        go_wp2_with (at_builtin; refine wpList_append_own _ rfl _ _ 23 rfl (w.heap.size + 1) 3 i0 (.int .i64 0) 1 8 Tryd.underlying23 hi hz0 hz1 hz2 rfl (by decide) _ _ _ rfl (HO.out.alloc _) ⟨wr.heap.size, 0, none⟩ 1 1 [.int .i64 u] rfl rfl ?c1 ?c2 ?c3 ?c4 ?c5 ?_)
        case c1 =>
          intro j z hj
          match j, hj with
          | 0, hj => simp at hj; subst hj; simp [Addr.add]
        case c2 => intro z hz; simp at hz; subst hz; rfl
        case c3 => unfold maxLen; omega
        case c4 => omega
        case c5 => simp; omega
        intro v' w2 hown' hgrow _
        obtain ⟨A', cap', hv'⟩ : ∃ A' cap', v' = .slice A' (k + 1) cap' := by
          rcases hown'.2 with ⟨_, hz⟩ | ⟨g, cap, cur, hv, _⟩
          · omega
          · exact ⟨some ⟨g, 0, none⟩, cap, by rw [hv]⟩
        have hb2 : Below w.heap.size w w2 := (HBW.out.alloc HBW.out.size _).grown hgrow (by simp; omega) (fun j hj => by have := (HO.out.lt j hj).1; omega)
        have hbx2 : w2.heap[w.heap.size]? = some (.cells #[.string x, .slice A vs.length c1, .slice B cs.length c2, .int .i64 n] 37 (0, 0)) := by
          have hb3 : Below (w.heap.size + 1) wr w2 := ((Below.refl _ wr).alloc (by omega) _).grown hgrow (by simp; omega) (fun j hj => (HO.out.lt j hj).1)
          exact (hb3.block _ (by omega)).trans HBX.out
        have OW := Lib.hid (show w2.ownsRow (w.heap.size + 1) 3 1 (.slice A' (k + 1) cap') (k + 1) (((pick vs us).take (k + 1)).map (Value.int .i64)) by rw [← hv', PK.out]; simpa using hown')
        have VV := Lib.hid hv'
        have HB2 := Lib.hid hb2
        have HX2 := Lib.hid hbx2
        clear hown' hgrow hv' hb2 hbx2
        go_wp2_with fail
        go_roundw
        case rel => exact ⟨k + 1, A', cap', by omega, by go_num, VV.out, OW.out, HB2.out, HX2.out⟩
        case measure => simp [intOf]; omega
      · obtain rfl : k = vs.length := by omega
        have hlt' : decide ((vs.length : Int) < (vs.length : Int)) = false := by simp
        have rng := pick_range (vs := vs) HU2.out
        have ho := HO.out
        have hw := HW.out
        rw [List.take_of_length_le (by simp [pick])] at ho
        obtain ⟨g, rfl, hcap, hgb, hgs, hrow⟩ := own_at ho (by omega)
        have cl := (show (pick vs us).length = vs.length by simp [pick])
        have ig := ints_row (l := pick vs us) rng (by omega) hgs hrow
        have IB := HB0.out.over HBW.out
        have HRW := Lib.hid hrow
        subst hw
        clear hrow ho  rng HW HO 
        go_wp2_with fail
        refine reg_ok mixed (w0 := (iW wr [.slice (some ⟨g, 0, none⟩) vs.length cap, .string x, .slice A vs.length c1, .slice B cs.length c2, .int .i64 n, .int .i64 (dot cs (pick vs us) / 4294967296), .int .i64 (dot cs (pick vs us) % 4294967296)] (by intro v hv; simp at hv; rcases hv with rfl | rfl | rfl | rfl | rfl | rfl | rfl <;> exact ⟨rfl, rfl⟩))) (lift_ok2 (noOpO_ok _ _) (sOrc_ok (B := B) (G := some ⟨g, 0, none⟩) (c2 := c2) (cap := cap) (n := n) (by show 6 < 7; decide) rfl (by rw [cl]; rfl) rfl rfl rfl IB ig (by omega) (by omega) CR.out hn)) (f := frOf 200 [(5, .chan (some 0)), (2, .pointer (some ⟨7, 0, none⟩))]) (t := 4) (v := .bool (decide (dot cs (pick vs us) ≤ n))) rfl ?_ (HR.rows _ [⟨w.heap.size, 0, [.chan (some 1), .chan (some 2), .chan (some 3), .chan (some 4)], [.string x, .slice A vs.length c1, .slice B cs.length c2, .int .i64 n]⟩] ?_) (frOf_ok rfl rfl ?_) ?_
        · rcases sgn_cases (dot cs (pick vs us) - n) with ⟨hs, e⟩ | ⟨hs, e⟩ | ⟨hs, e⟩
          · rw [e, show decide (dot cs (pick vs us) ≤ n) = true by simp; omega]; kernel_rfl
          · rw [e, show decide (dot cs (pick vs us) ≤ n) = true by simp; omega]; kernel_rfl
          · rw [e, show decide (dot cs (pick vs us) ≤ n) = false by simp; omega]; kernel_rfl
        · have sy := rowsφ_sy (iW wr [.slice (some ⟨g, 0, none⟩) vs.length cap, .string x, .slice A vs.length c1, .slice B cs.length c2, .int .i64 n, .int .i64 (dot cs (pick vs us) / 4294967296), .int .i64 (dot cs (pick vs us) % 4294967296)] (by intro v hv; simp at hv; rcases hv with rfl | rfl | rfl | rfl | rfl | rfl | rfl <;> exact ⟨rfl, rfl⟩)) [⟨w.heap.size, 0, [.chan (some 1), .chan (some 2), .chan (some 3), .chan (some 4)], [.string x, .slice A vs.length c1, .slice B cs.length c2, .int .i64 n]⟩]
          intro y hy
          simp only [List.mem_cons, List.not_mem_nil, or_false] at hy
          rcases hy with rfl
          · exact ⟨(LR.cons (sym_i sy (by simp)) (LR.cons (sym_i sy (by simp)) (LR.cons (sym_i sy (by simp)) (LR.cons (sym_i sy (by simp)) (LR.nil))))), hsz, _, _, _, HBX.out, by simp, by simp⟩
        · have sy := rowsφ_sy (iW wr [.slice (some ⟨g, 0, none⟩) vs.length cap, .string x, .slice A vs.length c1, .slice B cs.length c2, .int .i64 n, .int .i64 (dot cs (pick vs us) / 4294967296), .int .i64 (dot cs (pick vs us) % 4294967296)] (by intro v hv; simp at hv; rcases hv with rfl | rfl | rfl | rfl | rfl | rfl | rfl <;> exact ⟨rfl, rfl⟩)) [⟨w.heap.size, 0, [.chan (some 1), .chan (some 2), .chan (some 3), .chan (some 4)], [.string x, .slice A vs.length c1, .slice B cs.length c2, .int .i64 n]⟩]
          intro y hy
          simp only [List.mem_cons, List.not_mem_nil, or_false] at hy
          rcases hy with rfl | rfl
          · exact sym_i sy (r := 0) (by simp)
          · exact row_ptr (w0 := (iW wr [.slice (some ⟨g, 0, none⟩) vs.length cap, .string x, .slice A vs.length c1, .slice B cs.length c2, .int .i64 n, .int .i64 (dot cs (pick vs us) / 4294967296), .int .i64 (dot cs (pick vs us) % 4294967296)] (by intro v hv; simp at hv; rcases hv with rfl | rfl | rfl | rfl | rfl | rfl | rfl <;> exact ⟨rfl, rfl⟩))) (rs := [⟨w.heap.size, 0, [.chan (some 1), .chan (some 2), .chan (some 3), .chan (some 4)], [.string x, .slice A vs.length c1, .slice B cs.length c2, .int .i64 n]⟩]) (i := 0) rfl 0
        · intro a' w' h1 h2 h3
          go_wp2_with fail
          exact bodyPost_ret (results_tmp rfl _ _ _) h2 ⟨by rw [h1, Bool.true_and], HBW.out.trans (h3.mono HBW.out.size)⟩
end Go.Proofs.YtpejolnjnkcolaaDoor

/-
  Whether a propagator holds: the document's own answer.
-/
namespace Go.Proofs.YtpejolnjnkcolaaDoor
open Go Go.RowKit Go.Ev

theorem nodup_take_succ {l : List Int} {k : Nat} (h : k < l.length) : (l.take (k + 1)).Nodup ↔ (l.take k).Nodup ∧ ∀ i (hi : i < k), (l[i]'(by omega)) ≠ l[k] := by
  rw [List.take_succ_eq_append_getElem h, List.nodup_append]
  constructor
  · rintro ⟨h1, _, h3⟩
    exact ⟨h1, fun i hi => h3 _ (List.mem_take_iff_getElem.2 ⟨i, by omega, rfl⟩) _ (by simp)⟩
  · rintro ⟨h1, h2⟩
    refine ⟨h1, by simp, fun a ha b hb => ?_⟩
    simp at hb
    subst hb
    obtain ⟨i, hi, rfl⟩ := List.mem_take_iff_getElem.1 ha
    exact h2 i (by omega)

set_option maxRecDepth 100000 in
set_option maxHeartbeats 8000000 in
theorem ho_distinct (x : ByteArray) (vs cs us : List Int) (n : Int) (A B D : Option Addr) (c1 c2 c3 : Nat) (w : World) (hx : x.toList = [100, 105, 115, 116, 105, 110, 99, 116]) (ha : Ints w A vs) (hb : Ints w B cs) (hd : Ints w D us) (hcc : cs.length ≤ c2) (hn : -9223372036854775808 ≤ n ∧ n ≤ 9223372036854775807) :
    Calls Tryd.prog 26 #[.agg #[.string x, .slice A vs.length c1, .slice B cs.length c2, .int .i64 n], .slice D us.length c3] w fun e w' => e = .returned (.bool (vpCore vs.length 0 0 false false false vs cs n us.length && decide (pick vs us).Nodup)) ∧ Below w.heap.size w w' := by
  have VP := Lib.hid (fun w' (h : Below w.heap.size w w') => vp_distinct x vs cs n us.length A B c1 c2 w' hx (ha.over h) (hb.over h) (by have := hd.1; omega))
  have HD := Lib.hid hd
  have HA0 := Lib.hid ha
  have HB0 := Lib.hid hb
  obtain ⟨ha1, ha2, ha3⟩ := ha
  obtain ⟨hb1, hb2, hb3⟩ := hb
  obtain ⟨hd1, hd2, hd3⟩ := hd
  have k_sum : (x.toList == [115, 117, 109]) = false := by rw [hx]; rfl
  have k_most : (x.toList == [109, 111, 115, 116]) = false := by rw [hx]; rfl
  have k_distinct : (x.toList == [100, 105, 115, 116, 105, 110, 99, 116]) = true := by rw [hx]; rfl
  have k_unlike : (x.toList == [117, 110, 108, 105, 107, 101]) = false := by rw [hx]; rfl
  have k_product : (x.toList == [112, 114, 111, 100, 117, 99, 116]) = false := by rw [hx]; rfl
  have k_max : (x.toList == [109, 97, 120]) = false := by rw [hx]; rfl
  have k_reify : (x.toList == [114, 101, 105, 102, 121]) = false := by rw [hx]; rfl
  have k_element : (x.toList == [101, 108, 101, 109, 101, 110, 116]) = false := by rw [hx]; rfl
  have k_apart : (x.toList == [97, 112, 97, 114, 116]) = false := by rw [hx]; rfl
  clear hx
  generalize hV : vpCore vs.length 0 0 false false false vs cs n us.length = V at VP
  generalize hW : decide (pick vs us).Nodup = W
  have VF := Lib.hid (fun e : V = true => vp_facts (hV.trans e))
  have HW := Lib.hid hW
  have HA := Lib.hid ha3
  have HB := Lib.hid hb3
  have HU := Lib.hid hd3
  have HU2 := Lib.hid hd2
  clear hV hW ha2 hb2 hd2 ha3 hb3 hd3
  have B0 := Lib.hid (show ∀ o, Below w.heap.size w (w.alloc o) from fun o => (Below.refl _ _).alloc (Nat.le_refl _) _)
  obtain ⟨i0, hi, hz0, hz1, hz2⟩ := info_parts infoI
  go_enter Tryd.func26, Tryd.ntmps26
  go_wp2_with fail
  refine (VP.out _ (B0.out _)).mono ?_
  rintro e w1 ⟨rfl, hb⟩
  have hbx : w1.heap[w.heap.size]? = some (.cells #[.string x, .slice A vs.length c1, .slice B cs.length c2, .int .i64 n] 37 (0, 0)) := (hb.block w.heap.size (by simp)).trans (by show (w.heap.push _)[w.heap.size]? = _; simp)
  have hbW := (B0.out (.cells #[.string x, .slice A vs.length c1, .slice B cs.length c2, .int .i64 n] 37)).trans (hb.mono (by simp))
  have HB1 := Lib.hid hbW
  have HX1 := Lib.hid hbx
  have hs1 := lt_of_block hbx
  clear hb hbW hbx VP
  cases V with
  | false =>
    go_wp2_with fail
    go_ret
    exact ⟨rfl, HB1.out⟩
  | true =>
    obtain ⟨⟨t1, t2, t3, t4, t5, t6⟩, vr, cr, nr⟩ := VF.out rfl
    have T4 := Lib.hid t4
    have VR := Lib.hid vr
    have CR := Lib.hid cr
    have NR := Lib.hid nr
    clear t4 vr cr nr VF
    go_wp2_with fail
    go_loopw [5, 6] (fun l i wr => ∃ (k : Nat) (G : Option Addr) (cap : Nat), k ≤ vs.length ∧ i = .int .i64 k ∧ l = .slice G k cap ∧ wr.ownsRow (w.heap.size + 1) 3 1 (.slice G k cap) k (((pick vs us).take k).map (Value.int .i64)) ∧ Below w.heap.size w wr ∧ wr.heap[w.heap.size]? = some (.cells #[.string x, .slice A vs.length c1, .slice B cs.length c2, .int .i64 n] 37 (0, 0))) (fun _ i _ => vs.length - (intOf i).toNat)
    case atStart => exact ⟨0, none, 0, Nat.zero_le _, rfl, rfl, by simpa using World.ownsRow_nil _ _ _ _, HB1.out, HX1.out⟩
    case round =>
      obtain ⟨k, G, cap, hk, rfl, rfl, hown, hbw, hbx⟩ := hrel
      have hsz := lt_of_block hbx
      have d0 : wr.cell? ⟨w.heap.size, 0, none⟩ = some (.string x) := by simp [World.cell?, hbx]
      have d1 : wr.cell? ⟨w.heap.size, 1, none⟩ = some (.slice A vs.length c1) := by simp [World.cell?, hbx]
      have d2 : wr.cell? ⟨w.heap.size, 2, none⟩ = some (.slice B cs.length c2) := by simp [World.cell?, hbx]
      have d3 : wr.cell? ⟨w.heap.size, 3, none⟩ = some (.int .i64 n) := by simp [World.cell?, hbx]
      have HO := Lib.hid hown
      have HBW := Lib.hid hbw
      have HBX := Lib.hid hbx
      clear hown hbw hbx HB1 HX1
      by_cases hlt : k < vs.length
      · obtain ⟨b1, o1, eA, hb1', f1⟩ := HA.out (by omega)
        rw [eA] at d1
        have EA := Lib.hid eA
        clear eA
        have x1 := (HBW.out.cell (p := ⟨b1, o1 + k, none⟩) hb1').trans (f1 k hlt)
        have hv := VR.out k hlt
        have hvlt : (vs[k]).toNat < us.length := by omega
        obtain ⟨b2, o2, rfl, hb2', f2⟩ := HU.out (by omega)
        have x2 := (HBW.out.cell (p := ⟨b2, o2 + (vs[k]).toNat, none⟩) hb2').trans (f2 _ hvlt)
        have PK := Lib.hid (show (pick vs us).take (k + 1) = (pick vs us).take k ++ [us[(vs[k]).toNat]] by
          rw [List.take_succ_eq_append_getElem (by simp [pick]; omega)]
          simp [pick, nthI, List.getD_eq_getElem?_getD, List.getElem?_eq_getElem hvlt])
        generalize us[(vs[k]).toNat] = u at *
        generalize vs[k] = v at *
        obtain ⟨q, rfl⟩ : ∃ q : Nat, v = q := ⟨v.toNat, by omega⟩
        simp only [Int.toNat_natCast] at x2 hvlt
        clear f1 f2 HA HU VR HW
        have z3 : (k : Int) < (vs.length : Int) := by omega
        have z4 : (0 : Int) ≤ (k : Int) := by omega
        have z5 : (q : Int) < (us.length : Int) := by omega
        have z6 : (0 : Int) ≤ (q : Int) := by omega
        have hlen : (((pick vs us).take k).map (Value.int .i64)).length = k := by simp [pick]; omega
        go_wp2_with (at_builtin; refine wpList_append_own _ rfl _ _ 23 rfl (w.heap.size + 1) 3 i0 (.int .i64 0) 1 8 Tryd.underlying23 hi hz0 hz1 hz2 rfl (by decide) _ _ _ rfl (HO.out.alloc _) ⟨wr.heap.size, 0, none⟩ 1 1 [.int .i64 u] rfl rfl ?c1 ?c2 ?c3 ?c4 ?c5 ?_)
        case c1 =>
          intro j z hj
          match j, hj with
          | 0, hj => simp at hj; subst hj; simp [Addr.add]
        case c2 => intro z hz; simp at hz; subst hz; rfl
        case c3 => unfold maxLen; omega
        case c4 => omega
        case c5 => simp; omega
        intro v' w2 hown' hgrow _
        obtain ⟨A', cap', hv'⟩ : ∃ A' cap', v' = .slice A' (k + 1) cap' := by
          rcases hown'.2 with ⟨_, hz⟩ | ⟨g, cap, cur, hv, _⟩
          · omega
          · exact ⟨some ⟨g, 0, none⟩, cap, by rw [hv]⟩
        have hb2 : Below w.heap.size w w2 := (HBW.out.alloc HBW.out.size _).grown hgrow (by simp; omega) (fun j hj => by have := (HO.out.lt j hj).1; omega)
        have hbx2 : w2.heap[w.heap.size]? = some (.cells #[.string x, .slice A vs.length c1, .slice B cs.length c2, .int .i64 n] 37 (0, 0)) := by
          have hb3 : Below (w.heap.size + 1) wr w2 := ((Below.refl _ wr).alloc (by omega) _).grown hgrow (by simp; omega) (fun j hj => (HO.out.lt j hj).1)
          exact (hb3.block _ (by omega)).trans HBX.out
        have OW := Lib.hid (show w2.ownsRow (w.heap.size + 1) 3 1 (.slice A' (k + 1) cap') (k + 1) (((pick vs us).take (k + 1)).map (Value.int .i64)) by rw [← hv', PK.out]; simpa using hown')
        have VV := Lib.hid hv'
        have HB2 := Lib.hid hb2
        have HX2 := Lib.hid hbx2
        clear hown' hgrow hv' hb2 hbx2
        go_wp2_with fail
        go_roundw
        case rel => exact ⟨k + 1, A', cap', by omega, by go_num, VV.out, OW.out, HB2.out, HX2.out⟩
        case measure => simp [intOf]; omega
      · obtain rfl : k = vs.length := by omega
        have hlt' : decide ((vs.length : Int) < (vs.length : Int)) = false := by simp
        have ho := HO.out
        have cl := (show (pick vs us).length = vs.length by simp [pick])
        rw [List.take_of_length_le (by omega)] at ho
        obtain ⟨g, rfl, hcap, hgb, hgs, arr, ee, fz, q1, q2, q3⟩ := own_at ho (by omega)
        have yy : ∀ i (hi : i < (pick vs us).length), wr.cell? ⟨g, i, none⟩ = some (.int .i64 (pick vs us)[i]) := fun i hi => by
          have h4 := congrArg (fun q => q[i]?) q2
          simp only [List.drop_zero, List.length_map, List.getElem?_take, if_pos hi, List.getElem?_map, List.getElem?_eq_getElem hi, Option.map_some] at h4
          simp only [World.cell?, q1]
          rw [← h4]; simp
        have CL := Lib.hid cl
        generalize pick vs us = l at *
        have YY := Lib.hid yy
        have T3 := (show vs.length ≤ 40 by omega)
        clear ho q1 q2 q3 HA HU yy HO cl
        go_wp2_with fail
        go_loopw [7, 8] (fun i _ wx => ∃ (k d : Nat), k ≤ vs.length ∧ i = .int .i64 k ∧ (l.take k).Nodup ∧ wx = wr.drewN d) (fun i _ _ => vs.length - (intOf i).toNat)
        case atStart => exact ⟨0, 0, Nat.zero_le _, rfl, by simp, rfl⟩
        case round =>
          obtain ⟨k, d, hk2, rfl, hnd, rfl⟩ := hrel
          have ND := Lib.hid hnd
          clear hnd
          by_cases hlt : k < vs.length
          · have hll : k < l.length := by have := CL.out; omega
            have z1 : (k : Int) < (vs.length : Int) := by omega
            have z2 : (0 : Int) ≤ (k : Int) := by omega
            go_wp2_with fail
            obtain ⟨wo, hwo⟩ : ∃ wo : World, wo = wr.drewN d := ⟨_, rfl⟩
            rw [← hwo]
            have HDD := Lib.hid hwo
            clear hwo
            go_loopw [8] (fun m wx => ∃ (j q : Nat), j ≤ k ∧ m = .int .i64 j ∧ (∀ i (hi : i < j) (hil : i < l.length), l[i] ≠ l[k]) ∧ wx = wo.drewN q) (fun m _ => k - (intOf m).toNat)
            case atStart => exact ⟨0, 0, Nat.zero_le _, rfl, fun i hi => by omega, rfl⟩
            case round =>
              obtain ⟨j, q, hj, rfl, hne, rfl⟩ := hrel
              have HN := Lib.hid hne
              clear hne
              by_cases hjk : j < k
              · have cj : wo.cell? ⟨g, j, none⟩ = some (.int .i64 (l[j]'(by omega))) := by rw [HDD.out]; exact YY.out j (by omega)
                have ck : wo.cell? ⟨g, k, none⟩ = some (.int .i64 l[k]) := by rw [HDD.out]; exact YY.out k hll
                have z3 : (j : Int) < (k : Int) := by omega
                have z4 : (0 : Int) ≤ (j : Int) := by omega
                have z5 : (j : Int) < (vs.length : Int) := by omega
                by_cases he : l[j]'(by omega) = l[k]
                · have e : W = false := by
                    rw [← HW.out]
                    have hh : ¬ l.Nodup := fun hh => ((nodup_take_succ hll).1 (hh.sublist (List.take_sublist _ _))).2 j hjk he
                    simpa using hh
                  rw [he] at cj
                  generalize l[k] = u at *
                  go_wp2_with fail
                  go_quiet (fail)
                  go_wp2_with fail
                  go_ret
                  exact ⟨by rw [e]; rfl, by rw [HDD.out]; exact below_drewN (below_drewN (below_drewN HBW.out d) q) _⟩
                · have hb : (l[k] == (l[j]'(by omega))) = false := beq_eq_false_iff_ne.2 (fun e => he e.symm)
                  have HE := Lib.hid he
                  generalize hu : l[k] = u at *
                  generalize hv : l[j]'(by omega) = v at *
                  go_wp2_with fail
                  go_quiet (fail)
                  go_wp2_with fail
                  go_roundw
                  case rel =>
                    refine ⟨j + 1, _, by omega, by go_num, fun i hi hil => ?_, rfl⟩
                    rcases Nat.lt_succ_iff_lt_or_eq.1 hi with h | rfl
                    · exact HN.out i h hil
                    · rw [hv]; exact HE.out
                  case measure => simp [intOf]; omega
              · have hjk' : j = k := by omega
                subst hjk'
                have ND2 := Lib.hid ((nodup_take_succ hll).2 ⟨ND.out, fun i hi => HN.out i hi (by omega)⟩)
                go_wp2_with fail
                go_roundw
                case rel => exact ⟨j + 1, d + q, by omega, by go_num, ND2.out, by rw [HDD.out, World.drewN_drewN]⟩
                case measure => simp [intOf]; omega
          · have hkn : k = vs.length := by omega
            subst hkn
            have e : W = true := by
              rw [← HW.out]
              have := ND.out
              rw [List.take_of_length_le (by have := CL.out; omega)] at this
              simpa using this
            go_wp2_with fail
            go_ret
            exact ⟨by rw [e]; rfl, below_drewN HBW.out d⟩
end Go.Proofs.YtpejolnjnkcolaaDoor

/-
  Whether a propagator holds: the document's own answer.
-/
namespace Go.Proofs.YtpejolnjnkcolaaDoor
open Go Go.RowKit Go.Ev

def isTwo : Option (List Value) → Bool
  | some [.int .i64 (.negSucc 0), .int .i64 (.ofNat 1)] => true
  | _ => false
def uOrc (c : Int) : Orc := fun k args st => match args with
  | [.slice (some a) 2 _, .chan (some 0)] => if Nat.beq k 45 && isTwo (aloadCells st a 2) then some (.agg ⟨[.chan (some 5), .chan (some 6)]⟩) else none
  | [.agg ⟨[.chan (some 5), .chan (some 6)]⟩, .chan (some 4)] => if Nat.beq k 44 then some (.int .i64 c) else none
  | _ => none
theorem uOrc_ok {w0 : W0} {L : List Int} {n : Int} {G : Option Addr} {cap : Nat} (hm : 6 < w0.m) (e0 : w0.env 0 = .slice G L.length cap) (e4 : w0.env 4 = .int .i64 n)
    (e5 : w0.env 5 = .int .i64 (dot [-1, 1] L / 4294967296)) (e6 : w0.env 6 = .int .i64 (dot [-1, 1] L % 4294967296)) (hG : Ints w0.w G L) (hl : L.length ≤ 2) (rn : -9223372036854775808 ≤ n ∧ n ≤ 9223372036854775807) :
    OrcOk Tryd.prog w0 (uOrc (sgn (dot [-1, 1] L - n))) := by
  have hc : ∀ x ∈ [(-1 : Int), 1], -1000000 ≤ x ∧ x ≤ 1000000 := by intro x hx; simp at hx; rcases hx with rfl | rfl <;> omega
  intro k args st v h φ args' w H hlr
  have sy := H.sym
  unfold uOrc at h
  split at h
  · rename_i a cc
    split at h
    · rename_i hk
      rw [Bool.and_eq_true] at hk
      obtain ⟨hk, h2⟩ := hk
      obtain rfl := Nat.eq_of_beq_eq_true hk
      cases h
      obtain ⟨x, y, rfl, hx, hy⟩ := lr2 hlr
      have hcells : aloadCells st a 2 = some [.int .i64 (-1), .int .i64 1] := by
        unfold isTwo at h2
        split at h2
        · rename_i e; rw [e]; rfl
        · cases h2
      cases hx with
      | leaf hl => simp [leafB] at hl
      | @slice _ a' _ _ c' har hcr =>
        obtain ⟨l', q1, q2, q3⟩ := aload_cells H har hcells
        have hl' : l' = [.int .i64 (-1), .int .i64 1] := plain_list0 (d := 0) (by rfl) q2
        subst hl'
        have z0 := q3 0 _ rfl
        have z1 := q3 1 _ rfl
        obtain ⟨b, o, spot⟩ := a'
        have hspot : spot = none := by simpa [Addr.add] using World.cell?_spot z0
        subst hspot
        have hbs : b < w.heap.size := by
          rcases Nat.lt_or_ge b w.heap.size with h' | h'
          · exact h'
          · simp [World.cell?, Addr.add, Array.getElem?_eq_none h'] at z0
        have hA : Ints w (some ⟨b, o, none⟩) [-1, 1] := ⟨by simp, by intro x hx; simp at hx; rcases hx with rfl | rfl <;> omega, fun _ => ⟨b, o, rfl, hbs, fun i hi => by
          match i, hi with
          | 0, _ => simpa [Addr.add] using z0
          | 1, _ => simpa [Addr.add] using z1⟩⟩
        rw [one_sym sy hy, e0]
        refine ⟨fun w => enters Tryd.func45 (by decide +kernel) (by kernel_rfl) _ w, Calls.mono (total_any [-1, 1] L (some ⟨b, o, none⟩) G c' cap w hA (hG.over H.below) hl (by omega) hc) ?_⟩
        rintro e w' ⟨rfl, hb⟩
        refine ⟨⟨_, rfl, ?_⟩, hb⟩
        unfold wideV
        have v5 := VR.sym sy (r := 5) (by omega)
        have v6 := VR.sym sy (r := 6) (by omega)
        rw [e5] at v5
        rw [e6] at v6
        exact VR.agg_iff.2 (LR.cons v5 (LR.cons v6 LR.nil))
    · cases h
  · split at h
    · rename_i hk
      obtain rfl := Nat.eq_of_beq_eq_true hk
      cases h
      obtain ⟨x, y, rfl, hx, hy⟩ := lr2 hlr
      rw [agg2 sy hx, one_sym sy hy, e4, e5, e6]
      refine ⟨fun w => enters Tryd.func44 (by decide +kernel) (by kernel_rfl) _ w, Calls.mono (compare_any (dot [-1, 1] L) n w (dot_bound hl (by omega) hc hG.2.1) rn) ?_⟩
      rintro e w' ⟨rfl, hb⟩
      exact ⟨⟨_, rfl, .leaf rfl⟩, hb⟩
    · cases h
  · cases h

set_option maxRecDepth 100000 in
set_option maxHeartbeats 8000000 in
theorem ho_unlike (x : ByteArray) (vs cs us : List Int) (n : Int) (A B D : Option Addr) (c1 c2 c3 : Nat) (w : World) (hx : x.toList = [117, 110, 108, 105, 107, 101]) (ha : Ints w A vs) (hb : Ints w B cs) (hd : Ints w D us) (hcc : cs.length ≤ c2) (hn : -9223372036854775808 ≤ n ∧ n ≤ 9223372036854775807) :
    Calls Tryd.prog 26 #[.agg #[.string x, .slice A vs.length c1, .slice B cs.length c2, .int .i64 n], .slice D us.length c3] w fun e w' => e = .returned (.bool (vpCore 2 0 0 false false true vs cs n us.length && decide (nthI (pick vs us) 1 - nthI (pick vs us) 0 ≠ n))) ∧ Below w.heap.size w w' := by
  have VP := Lib.hid (fun w' (h : Below w.heap.size w w') => vp_unlike x vs cs n us.length A B c1 c2 w' hx (ha.over h) (hb.over h) (by have := hd.1; omega))
  have HD := Lib.hid hd
  have HA0 := Lib.hid ha
  have HB0 := Lib.hid hb
  obtain ⟨ha1, ha2, ha3⟩ := ha
  obtain ⟨hb1, hb2, hb3⟩ := hb
  obtain ⟨hd1, hd2, hd3⟩ := hd
  have k_sum : (x.toList == [115, 117, 109]) = false := by rw [hx]; rfl
  have k_most : (x.toList == [109, 111, 115, 116]) = false := by rw [hx]; rfl
  have k_distinct : (x.toList == [100, 105, 115, 116, 105, 110, 99, 116]) = false := by rw [hx]; rfl
  have k_unlike : (x.toList == [117, 110, 108, 105, 107, 101]) = true := by rw [hx]; rfl
  have k_product : (x.toList == [112, 114, 111, 100, 117, 99, 116]) = false := by rw [hx]; rfl
  have k_max : (x.toList == [109, 97, 120]) = false := by rw [hx]; rfl
  have k_reify : (x.toList == [114, 101, 105, 102, 121]) = false := by rw [hx]; rfl
  have k_element : (x.toList == [101, 108, 101, 109, 101, 110, 116]) = false := by rw [hx]; rfl
  have k_apart : (x.toList == [97, 112, 97, 114, 116]) = false := by rw [hx]; rfl
  clear hx
  generalize hV : vpCore 2 0 0 false false true vs cs n us.length = V at VP
  generalize hW : decide (nthI (pick vs us) 1 - nthI (pick vs us) 0 ≠ n) = W
  have VF := Lib.hid (fun e : V = true => vp_facts (hV.trans e))
  have HW := Lib.hid hW
  have HA := Lib.hid ha3
  have HB := Lib.hid hb3
  have HU := Lib.hid hd3
  have HU2 := Lib.hid hd2
  clear hV hW ha2 hb2 hd2 ha3 hb3 hd3
  have B0 := Lib.hid (show ∀ o, Below w.heap.size w (w.alloc o) from fun o => (Below.refl _ _).alloc (Nat.le_refl _) _)
  obtain ⟨i0, hi, hz0, hz1, hz2⟩ := info_parts infoI
  go_enter Tryd.func26, Tryd.ntmps26
  go_wp2_with fail
  refine (VP.out _ (B0.out _)).mono ?_
  rintro e w1 ⟨rfl, hb⟩
  have hbx : w1.heap[w.heap.size]? = some (.cells #[.string x, .slice A vs.length c1, .slice B cs.length c2, .int .i64 n] 37 (0, 0)) := (hb.block w.heap.size (by simp)).trans (by show (w.heap.push _)[w.heap.size]? = _; simp)
  have hbW := (B0.out (.cells #[.string x, .slice A vs.length c1, .slice B cs.length c2, .int .i64 n] 37)).trans (hb.mono (by simp))
  have HB1 := Lib.hid hbW
  have HX1 := Lib.hid hbx
  have hs1 := lt_of_block hbx
  clear hb hbW hbx VP
  cases V with
  | false =>
    go_wp2_with fail
    go_ret
    exact ⟨rfl, HB1.out⟩
  | true =>
    obtain ⟨⟨t1, t2, t3, t4, t5, t6⟩, vr, cr, nr⟩ := VF.out rfl
    have T4 := Lib.hid t4
    have VR := Lib.hid vr
    have CR := Lib.hid cr
    have NR := Lib.hid nr
    clear t4 vr cr nr VF
    go_wp2_with fail
    go_loopw [5, 6] (fun l i wr => ∃ (k : Nat) (G : Option Addr) (cap : Nat), k ≤ vs.length ∧ i = .int .i64 k ∧ l = .slice G k cap ∧ wr.ownsRow (w.heap.size + 1) 3 1 (.slice G k cap) k (((pick vs us).take k).map (Value.int .i64)) ∧ Below w.heap.size w wr ∧ wr.heap[w.heap.size]? = some (.cells #[.string x, .slice A vs.length c1, .slice B cs.length c2, .int .i64 n] 37 (0, 0))) (fun _ i _ => vs.length - (intOf i).toNat)
    case atStart => exact ⟨0, none, 0, Nat.zero_le _, rfl, rfl, by simpa using World.ownsRow_nil _ _ _ _, HB1.out, HX1.out⟩
    case round =>
      obtain ⟨k, G, cap, hk, rfl, rfl, hown, hbw, hbx⟩ := hrel
      have hsz := lt_of_block hbx
      have d0 : wr.cell? ⟨w.heap.size, 0, none⟩ = some (.string x) := by simp [World.cell?, hbx]
      have d1 : wr.cell? ⟨w.heap.size, 1, none⟩ = some (.slice A vs.length c1) := by simp [World.cell?, hbx]
      have d2 : wr.cell? ⟨w.heap.size, 2, none⟩ = some (.slice B cs.length c2) := by simp [World.cell?, hbx]
      have d3 : wr.cell? ⟨w.heap.size, 3, none⟩ = some (.int .i64 n) := by simp [World.cell?, hbx]
      have HO := Lib.hid hown
      have HBW := Lib.hid hbw
      have HBX := Lib.hid hbx
      clear hown hbw hbx HB1 HX1
      by_cases hlt : k < vs.length
      · obtain ⟨b1, o1, eA, hb1', f1⟩ := HA.out (by omega)
        rw [eA] at d1
        have EA := Lib.hid eA
        clear eA
        have x1 := (HBW.out.cell (p := ⟨b1, o1 + k, none⟩) hb1').trans (f1 k hlt)
        have hv := VR.out k hlt
        have hvlt : (vs[k]).toNat < us.length := by omega
        obtain ⟨b2, o2, rfl, hb2', f2⟩ := HU.out (by omega)
        have x2 := (HBW.out.cell (p := ⟨b2, o2 + (vs[k]).toNat, none⟩) hb2').trans (f2 _ hvlt)
        have PK := Lib.hid (show (pick vs us).take (k + 1) = (pick vs us).take k ++ [us[(vs[k]).toNat]] by
          rw [List.take_succ_eq_append_getElem (by simp [pick]; omega)]
          simp [pick, nthI, List.getD_eq_getElem?_getD, List.getElem?_eq_getElem hvlt])
        generalize us[(vs[k]).toNat] = u at *
        generalize vs[k] = v at *
        obtain ⟨q, rfl⟩ : ∃ q : Nat, v = q := ⟨v.toNat, by omega⟩
        simp only [Int.toNat_natCast] at x2 hvlt
        clear f1 f2 HA HU VR HW
        have z3 : (k : Int) < (vs.length : Int) := by omega
        have z4 : (0 : Int) ≤ (k : Int) := by omega
        have z5 : (q : Int) < (us.length : Int) := by omega
        have z6 : (0 : Int) ≤ (q : Int) := by omega
        have hlen : (((pick vs us).take k).map (Value.int .i64)).length = k := by simp [pick]; omega
        go_wp2_with (at_builtin; refine wpList_append_own _ rfl _ _ 23 rfl (w.heap.size + 1) 3 i0 (.int .i64 0) 1 8 Tryd.underlying23 hi hz0 hz1 hz2 rfl (by decide) _ _ _ rfl (HO.out.alloc _) ⟨wr.heap.size, 0, none⟩ 1 1 [.int .i64 u] rfl rfl ?c1 ?c2 ?c3 ?c4 ?c5 ?_)
        case c1 =>
          intro j z hj
          match j, hj with
          | 0, hj => simp at hj; subst hj; simp [Addr.add]
        case c2 => intro z hz; simp at hz; subst hz; rfl
        case c3 => unfold maxLen; omega
        case c4 => omega
        case c5 => simp; omega
        intro v' w2 hown' hgrow _
        obtain ⟨A', cap', hv'⟩ : ∃ A' cap', v' = .slice A' (k + 1) cap' := by
          rcases hown'.2 with ⟨_, hz⟩ | ⟨g, cap, cur, hv, _⟩
          · omega
          · exact ⟨some ⟨g, 0, none⟩, cap, by rw [hv]⟩
        have hb2 : Below w.heap.size w w2 := (HBW.out.alloc HBW.out.size _).grown hgrow (by simp; omega) (fun j hj => by have := (HO.out.lt j hj).1; omega)
        have hbx2 : w2.heap[w.heap.size]? = some (.cells #[.string x, .slice A vs.length c1, .slice B cs.length c2, .int .i64 n] 37 (0, 0)) := by
          have hb3 : Below (w.heap.size + 1) wr w2 := ((Below.refl _ wr).alloc (by omega) _).grown hgrow (by simp; omega) (fun j hj => (HO.out.lt j hj).1)
          exact (hb3.block _ (by omega)).trans HBX.out
        have OW := Lib.hid (show w2.ownsRow (w.heap.size + 1) 3 1 (.slice A' (k + 1) cap') (k + 1) (((pick vs us).take (k + 1)).map (Value.int .i64)) by rw [← hv', PK.out]; simpa using hown')
        have VV := Lib.hid hv'
        have HB2 := Lib.hid hb2
        have HX2 := Lib.hid hbx2
        clear hown' hgrow hv' hb2 hbx2
        go_wp2_with fail
        go_roundw
        case rel => exact ⟨k + 1, A', cap', by omega, by go_num, VV.out, OW.out, HB2.out, HX2.out⟩
        case measure => simp [intOf]; omega
      · obtain rfl : k = vs.length := by omega
        have hlt' : decide ((vs.length : Int) < (vs.length : Int)) = false := by simp
        obtain ⟨a0, a1, eP⟩ := two (l := pick vs us) (by have := T4.out; simp [pick]; omega)
        have rng := pick_range (vs := vs) HU2.out
        have ho := HO.out
        have hw := HW.out
        rw [List.take_of_length_le (by simp [pick])] at ho
        have e3 : vs.length = 2 := by have := T4.out; omega
        rw [eP] at rng ho hw
        have r0 := rng a0 (by simp)
        have r1 := rng a1 (by simp)
        simp only [nthI, List.getD_cons_zero, List.getD_cons_succ] at hw
        have E3 := Lib.hid e3
        obtain ⟨g, rfl, hcap, hgb, hgs, hrow⟩ := own_at ho (by omega)
        rw [e3] at hcap
        have ig := ints_row (l := [a0, a1]) rng (by simp) hgs hrow
        have dt : dot [-1, 1] [a0, a1] = a1 - a0 := by simp [dot, psum]; omega
        have HRW := Lib.hid hrow
        subst hw
        clear hrow ho eP rng HW HO e3
        go_wp2_with fail
        rw [E3.out]
        refine reg_ok mixed (w0 := (iW wr [.slice (some ⟨g, 0, none⟩) 2 cap, .string x, .slice A vs.length c1, .slice B cs.length c2, .int .i64 n, .int .i64 (dot [-1, 1] [a0, a1] / 4294967296), .int .i64 (dot [-1, 1] [a0, a1] % 4294967296)] (by intro v hv; simp at hv; rcases hv with rfl | rfl | rfl | rfl | rfl | rfl | rfl <;> exact ⟨rfl, rfl⟩))) (lift_ok2 (noOpO_ok _ _) (uOrc_ok (L := [a0, a1]) (G := some ⟨g, 0, none⟩) (cap := cap) (n := n) (by show 6 < 7; decide) rfl rfl rfl rfl ig (by simp) hn)) (f := frOf 200 [(5, .chan (some 0)), (2, .pointer (some ⟨7, 0, none⟩))]) (t := 4) (v := .bool (decide (a1 - a0 ≠ n))) rfl ?_ (HR.rows _ [⟨w.heap.size, 0, [.chan (some 1), .chan (some 2), .chan (some 3), .chan (some 4)], [.string x, .slice A vs.length c1, .slice B cs.length c2, .int .i64 n]⟩] ?_) (frOf_ok rfl rfl ?_) ?_
        · rcases sgn_cases (dot [-1, 1] [a0, a1] - n) with ⟨hs, e⟩ | ⟨hs, e⟩ | ⟨hs, e⟩
          · rw [e, show decide (a1 - a0 ≠ n) = true by simp; omega]; kernel_rfl
          · rw [e, show decide (a1 - a0 ≠ n) = false by simp; omega]; kernel_rfl
          · rw [e, show decide (a1 - a0 ≠ n) = true by simp; omega]; kernel_rfl
        · have sy := rowsφ_sy (iW wr [.slice (some ⟨g, 0, none⟩) 2 cap, .string x, .slice A vs.length c1, .slice B cs.length c2, .int .i64 n, .int .i64 (dot [-1, 1] [a0, a1] / 4294967296), .int .i64 (dot [-1, 1] [a0, a1] % 4294967296)] (by intro v hv; simp at hv; rcases hv with rfl | rfl | rfl | rfl | rfl | rfl | rfl <;> exact ⟨rfl, rfl⟩)) [⟨w.heap.size, 0, [.chan (some 1), .chan (some 2), .chan (some 3), .chan (some 4)], [.string x, .slice A vs.length c1, .slice B cs.length c2, .int .i64 n]⟩]
          intro y hy
          simp only [List.mem_cons, List.not_mem_nil, or_false] at hy
          rcases hy with rfl
          · exact ⟨(LR.cons (sym_i sy (by simp)) (LR.cons (sym_i sy (by simp)) (LR.cons (sym_i sy (by simp)) (LR.cons (sym_i sy (by simp)) (LR.nil))))), hsz, _, _, _, HBX.out, by simp, by simp⟩
        · have sy := rowsφ_sy (iW wr [.slice (some ⟨g, 0, none⟩) 2 cap, .string x, .slice A vs.length c1, .slice B cs.length c2, .int .i64 n, .int .i64 (dot [-1, 1] [a0, a1] / 4294967296), .int .i64 (dot [-1, 1] [a0, a1] % 4294967296)] (by intro v hv; simp at hv; rcases hv with rfl | rfl | rfl | rfl | rfl | rfl | rfl <;> exact ⟨rfl, rfl⟩)) [⟨w.heap.size, 0, [.chan (some 1), .chan (some 2), .chan (some 3), .chan (some 4)], [.string x, .slice A vs.length c1, .slice B cs.length c2, .int .i64 n]⟩]
          intro y hy
          simp only [List.mem_cons, List.not_mem_nil, or_false] at hy
          rcases hy with rfl | rfl
          · exact sym_i sy (r := 0) (by simp)
          · exact row_ptr (w0 := (iW wr [.slice (some ⟨g, 0, none⟩) 2 cap, .string x, .slice A vs.length c1, .slice B cs.length c2, .int .i64 n, .int .i64 (dot [-1, 1] [a0, a1] / 4294967296), .int .i64 (dot [-1, 1] [a0, a1] % 4294967296)] (by intro v hv; simp at hv; rcases hv with rfl | rfl | rfl | rfl | rfl | rfl | rfl <;> exact ⟨rfl, rfl⟩))) (rs := [⟨w.heap.size, 0, [.chan (some 1), .chan (some 2), .chan (some 3), .chan (some 4)], [.string x, .slice A vs.length c1, .slice B cs.length c2, .int .i64 n]⟩]) (i := 0) rfl 0
        · intro a' w' h1 h2 h3
          go_wp2_with fail
          exact bodyPost_ret (results_tmp rfl _ _ _) h2 ⟨by rw [h1, Bool.true_and], HBW.out.trans (h3.mono HBW.out.size)⟩
end Go.Proofs.YtpejolnjnkcolaaDoor

/-
  Whether a propagator holds: the document's own answer.
-/
namespace Go.Proofs.YtpejolnjnkcolaaDoor
open Go Go.RowKit Go.Ev

def pOrc (b : Bool) : Orc := fun k args _ => match args with
  | [.chan (some 0), .chan (some 1), .chan (some 2)] => if Nat.beq k 46 then some (.bool b) else none
  | _ => none
theorem pOrc_ok {w0 : W0} {a0 a1 a2 : Int} (e0 : w0.env 0 = .int .i64 a0) (e1 : w0.env 1 = .int .i64 a1) (e2 : w0.env 2 = .int .i64 a2) (r0 : -9223372036854775808 ≤ a0 ∧ a0 ≤ 9223372036854775807) (r1 : -9223372036854775808 ≤ a1 ∧ a1 ≤ 9223372036854775807) (r2 : -9223372036854775808 ≤ a2 ∧ a2 ≤ 9223372036854775807) :
    OrcOk Tryd.prog w0 (pOrc (decide (a0 * a1 = a2))) := by
  refine orc_plain fun k args st v h => ?_
  unfold pOrc at h
  split at h
  · split at h
    · rename_i hk
      obtain rfl := Nat.eq_of_beq_eq_true hk
      cases h
      refine ⟨rfl, fun φ args' sy hl w1 => ?_⟩
      obtain ⟨x, y, z, rfl, hx, hy, hz⟩ := lr3 hl
      rw [one_sym sy hx, one_sym sy hy, one_sym sy hz, e0, e1, e2]
      exact ⟨fun w => enters Tryd.func46 (by decide +kernel) (by kernel_rfl) _ w, times_any a0 a1 a2 w1 r0 r1 r2⟩
    · cases h
  · cases h

set_option maxRecDepth 100000 in
set_option maxHeartbeats 8000000 in
theorem ho_product (x : ByteArray) (vs cs us : List Int) (n : Int) (A B D : Option Addr) (c1 c2 c3 : Nat) (w : World) (hx : x.toList = [112, 114, 111, 100, 117, 99, 116]) (ha : Ints w A vs) (hb : Ints w B cs) (hd : Ints w D us) (hcc : cs.length ≤ c2) (hn : -9223372036854775808 ≤ n ∧ n ≤ 9223372036854775807) :
    Calls Tryd.prog 26 #[.agg #[.string x, .slice A vs.length c1, .slice B cs.length c2, .int .i64 n], .slice D us.length c3] w fun e w' => e = .returned (.bool (vpCore 3 0 0 false false false vs cs n us.length && decide (nthI (pick vs us) 0 * nthI (pick vs us) 1 = nthI (pick vs us) 2))) ∧ Below w.heap.size w w' := by
  have VP := Lib.hid (fun w' (h : Below w.heap.size w w') => vp_product x vs cs n us.length A B c1 c2 w' hx (ha.over h) (hb.over h) (by have := hd.1; omega))
  have HD := Lib.hid hd
  have HA0 := Lib.hid ha
  have HB0 := Lib.hid hb
  obtain ⟨ha1, ha2, ha3⟩ := ha
  obtain ⟨hb1, hb2, hb3⟩ := hb
  obtain ⟨hd1, hd2, hd3⟩ := hd
  have k_sum : (x.toList == [115, 117, 109]) = false := by rw [hx]; rfl
  have k_most : (x.toList == [109, 111, 115, 116]) = false := by rw [hx]; rfl
  have k_distinct : (x.toList == [100, 105, 115, 116, 105, 110, 99, 116]) = false := by rw [hx]; rfl
  have k_unlike : (x.toList == [117, 110, 108, 105, 107, 101]) = false := by rw [hx]; rfl
  have k_product : (x.toList == [112, 114, 111, 100, 117, 99, 116]) = true := by rw [hx]; rfl
  have k_max : (x.toList == [109, 97, 120]) = false := by rw [hx]; rfl
  have k_reify : (x.toList == [114, 101, 105, 102, 121]) = false := by rw [hx]; rfl
  have k_element : (x.toList == [101, 108, 101, 109, 101, 110, 116]) = false := by rw [hx]; rfl
  have k_apart : (x.toList == [97, 112, 97, 114, 116]) = false := by rw [hx]; rfl
  clear hx
  generalize hV : vpCore 3 0 0 false false false vs cs n us.length = V at VP
  generalize hW : decide (nthI (pick vs us) 0 * nthI (pick vs us) 1 = nthI (pick vs us) 2) = W
  have VF := Lib.hid (fun e : V = true => vp_facts (hV.trans e))
  have HW := Lib.hid hW
  have HA := Lib.hid ha3
  have HB := Lib.hid hb3
  have HU := Lib.hid hd3
  have HU2 := Lib.hid hd2
  clear hV hW ha2 hb2 hd2 ha3 hb3 hd3
  have B0 := Lib.hid (show ∀ o, Below w.heap.size w (w.alloc o) from fun o => (Below.refl _ _).alloc (Nat.le_refl _) _)
  obtain ⟨i0, hi, hz0, hz1, hz2⟩ := info_parts infoI
  go_enter Tryd.func26, Tryd.ntmps26
  go_wp2_with fail
  refine (VP.out _ (B0.out _)).mono ?_
  rintro e w1 ⟨rfl, hb⟩
  have hbx : w1.heap[w.heap.size]? = some (.cells #[.string x, .slice A vs.length c1, .slice B cs.length c2, .int .i64 n] 37 (0, 0)) := (hb.block w.heap.size (by simp)).trans (by show (w.heap.push _)[w.heap.size]? = _; simp)
  have hbW := (B0.out (.cells #[.string x, .slice A vs.length c1, .slice B cs.length c2, .int .i64 n] 37)).trans (hb.mono (by simp))
  have HB1 := Lib.hid hbW
  have HX1 := Lib.hid hbx
  have hs1 := lt_of_block hbx
  clear hb hbW hbx VP
  cases V with
  | false =>
    go_wp2_with fail
    go_ret
    exact ⟨rfl, HB1.out⟩
  | true =>
    obtain ⟨⟨t1, t2, t3, t4, t5, t6⟩, vr, cr, nr⟩ := VF.out rfl
    have T4 := Lib.hid t4
    have VR := Lib.hid vr
    have CR := Lib.hid cr
    have NR := Lib.hid nr
    clear t4 vr cr nr VF
    go_wp2_with fail
    go_loopw [5, 6] (fun l i wr => ∃ (k : Nat) (G : Option Addr) (cap : Nat), k ≤ vs.length ∧ i = .int .i64 k ∧ l = .slice G k cap ∧ wr.ownsRow (w.heap.size + 1) 3 1 (.slice G k cap) k (((pick vs us).take k).map (Value.int .i64)) ∧ Below w.heap.size w wr ∧ wr.heap[w.heap.size]? = some (.cells #[.string x, .slice A vs.length c1, .slice B cs.length c2, .int .i64 n] 37 (0, 0))) (fun _ i _ => vs.length - (intOf i).toNat)
    case atStart => exact ⟨0, none, 0, Nat.zero_le _, rfl, rfl, by simpa using World.ownsRow_nil _ _ _ _, HB1.out, HX1.out⟩
    case round =>
      obtain ⟨k, G, cap, hk, rfl, rfl, hown, hbw, hbx⟩ := hrel
      have hsz := lt_of_block hbx
      have d0 : wr.cell? ⟨w.heap.size, 0, none⟩ = some (.string x) := by simp [World.cell?, hbx]
      have d1 : wr.cell? ⟨w.heap.size, 1, none⟩ = some (.slice A vs.length c1) := by simp [World.cell?, hbx]
      have d2 : wr.cell? ⟨w.heap.size, 2, none⟩ = some (.slice B cs.length c2) := by simp [World.cell?, hbx]
      have d3 : wr.cell? ⟨w.heap.size, 3, none⟩ = some (.int .i64 n) := by simp [World.cell?, hbx]
      have HO := Lib.hid hown
      have HBW := Lib.hid hbw
      have HBX := Lib.hid hbx
      clear hown hbw hbx HB1 HX1
      by_cases hlt : k < vs.length
      · obtain ⟨b1, o1, eA, hb1', f1⟩ := HA.out (by omega)
        rw [eA] at d1
        have EA := Lib.hid eA
        clear eA
        have x1 := (HBW.out.cell (p := ⟨b1, o1 + k, none⟩) hb1').trans (f1 k hlt)
        have hv := VR.out k hlt
        have hvlt : (vs[k]).toNat < us.length := by omega
        obtain ⟨b2, o2, rfl, hb2', f2⟩ := HU.out (by omega)
        have x2 := (HBW.out.cell (p := ⟨b2, o2 + (vs[k]).toNat, none⟩) hb2').trans (f2 _ hvlt)
        have PK := Lib.hid (show (pick vs us).take (k + 1) = (pick vs us).take k ++ [us[(vs[k]).toNat]] by
          rw [List.take_succ_eq_append_getElem (by simp [pick]; omega)]
          simp [pick, nthI, List.getD_eq_getElem?_getD, List.getElem?_eq_getElem hvlt])
        generalize us[(vs[k]).toNat] = u at *
        generalize vs[k] = v at *
        obtain ⟨q, rfl⟩ : ∃ q : Nat, v = q := ⟨v.toNat, by omega⟩
        simp only [Int.toNat_natCast] at x2 hvlt
        clear f1 f2 HA HU VR HW
        have z3 : (k : Int) < (vs.length : Int) := by omega
        have z4 : (0 : Int) ≤ (k : Int) := by omega
        have z5 : (q : Int) < (us.length : Int) := by omega
        have z6 : (0 : Int) ≤ (q : Int) := by omega
        have hlen : (((pick vs us).take k).map (Value.int .i64)).length = k := by simp [pick]; omega
        go_wp2_with (at_builtin; refine wpList_append_own _ rfl _ _ 23 rfl (w.heap.size + 1) 3 i0 (.int .i64 0) 1 8 Tryd.underlying23 hi hz0 hz1 hz2 rfl (by decide) _ _ _ rfl (HO.out.alloc _) ⟨wr.heap.size, 0, none⟩ 1 1 [.int .i64 u] rfl rfl ?c1 ?c2 ?c3 ?c4 ?c5 ?_)
        case c1 =>
          intro j z hj
          match j, hj with
          | 0, hj => simp at hj; subst hj; simp [Addr.add]
        case c2 => intro z hz; simp at hz; subst hz; rfl
        case c3 => unfold maxLen; omega
        case c4 => omega
        case c5 => simp; omega
        intro v' w2 hown' hgrow _
        obtain ⟨A', cap', hv'⟩ : ∃ A' cap', v' = .slice A' (k + 1) cap' := by
          rcases hown'.2 with ⟨_, hz⟩ | ⟨g, cap, cur, hv, _⟩
          · omega
          · exact ⟨some ⟨g, 0, none⟩, cap, by rw [hv]⟩
        have hb2 : Below w.heap.size w w2 := (HBW.out.alloc HBW.out.size _).grown hgrow (by simp; omega) (fun j hj => by have := (HO.out.lt j hj).1; omega)
        have hbx2 : w2.heap[w.heap.size]? = some (.cells #[.string x, .slice A vs.length c1, .slice B cs.length c2, .int .i64 n] 37 (0, 0)) := by
          have hb3 : Below (w.heap.size + 1) wr w2 := ((Below.refl _ wr).alloc (by omega) _).grown hgrow (by simp; omega) (fun j hj => (HO.out.lt j hj).1)
          exact (hb3.block _ (by omega)).trans HBX.out
        have OW := Lib.hid (show w2.ownsRow (w.heap.size + 1) 3 1 (.slice A' (k + 1) cap') (k + 1) (((pick vs us).take (k + 1)).map (Value.int .i64)) by rw [← hv', PK.out]; simpa using hown')
        have VV := Lib.hid hv'
        have HB2 := Lib.hid hb2
        have HX2 := Lib.hid hbx2
        clear hown' hgrow hv' hb2 hbx2
        go_wp2_with fail
        go_roundw
        case rel => exact ⟨k + 1, A', cap', by omega, by go_num, VV.out, OW.out, HB2.out, HX2.out⟩
        case measure => simp [intOf]; omega
      · obtain rfl : k = vs.length := by omega
        have hlt' : decide ((vs.length : Int) < (vs.length : Int)) = false := by simp
        obtain ⟨a0, a1, a2, eP⟩ := three (l := pick vs us) (by have := T4.out; simp [pick]; omega)
        have rng := pick_range (vs := vs) HU2.out
        have ho := HO.out
        have hw := HW.out
        rw [List.take_of_length_le (by simp [pick])] at ho
        have e3 : vs.length = 3 := by have := T4.out; omega
        rw [eP] at rng ho hw
        have r0 := rng a0 (by simp)
        have r1 := rng a1 (by simp)
        have r2 := rng a2 (by simp)
        simp only [nthI, List.getD_cons_zero, List.getD_cons_succ] at hw
        have E3 := Lib.hid e3
        obtain ⟨g, rfl, hcap, hgb, hgs, hrow⟩ := own_at ho (by omega)
        rw [e3] at hcap
        have HRW := Lib.hid hrow
        subst hw
        clear hrow ho eP rng HW HO e3
        go_wp2_with fail
        rw [E3.out]
        refine reg_ok mixed (w0 := (iW wr [.int .i64 a0, .int .i64 a1, .int .i64 a2] (by intro v hv; simp at hv; rcases hv with rfl | rfl | rfl <;> exact ⟨rfl, rfl⟩))) (lift_ok2 (noOpO_ok _ _) (pOrc_ok rfl rfl rfl r0 r1 r2)) (f := frOf 200 [(5, .slice (some ⟨3, 0, none⟩) 3 3)]) (t := 4) (v := .bool (decide (a0 * a1 = a2))) rfl ?_ (HR.rows _ [⟨g, 0, [.chan (some 0), .chan (some 1), .chan (some 2)], [.int .i64 a0, .int .i64 a1, .int .i64 a2]⟩] ?_) (frOf_ok rfl rfl ?_) ?_
        · generalize decide (a0 * a1 = a2) = b
          cases b <;> kernel_rfl
        · have sy := rowsφ_sy (iW wr [.int .i64 a0, .int .i64 a1, .int .i64 a2] (by intro v hv; simp at hv; rcases hv with rfl | rfl | rfl <;> exact ⟨rfl, rfl⟩)) [⟨g, 0, [.chan (some 0), .chan (some 1), .chan (some 2)], [.int .i64 a0, .int .i64 a1, .int .i64 a2]⟩]
          intro y hy
          simp only [List.mem_cons, List.not_mem_nil, or_false] at hy
          rcases hy with rfl
          · exact ⟨(LR.cons (sym_i sy (by simp)) (LR.cons (sym_i sy (by simp)) (LR.cons (sym_i sy (by simp)) (LR.nil)))), hgs, HRW.out⟩
        · have sy := rowsφ_sy (iW wr [.int .i64 a0, .int .i64 a1, .int .i64 a2] (by intro v hv; simp at hv; rcases hv with rfl | rfl | rfl <;> exact ⟨rfl, rfl⟩)) [⟨g, 0, [.chan (some 0), .chan (some 1), .chan (some 2)], [.int .i64 a0, .int .i64 a1, .int .i64 a2]⟩]
          intro y hy
          simp only [List.mem_cons, List.not_mem_nil, or_false] at hy
          rcases hy with rfl
          · exact row_slice (w0 := (iW wr [.int .i64 a0, .int .i64 a1, .int .i64 a2] (by intro v hv; simp at hv; rcases hv with rfl | rfl | rfl <;> exact ⟨rfl, rfl⟩))) (rs := [⟨g, 0, [.chan (some 0), .chan (some 1), .chan (some 2)], [.int .i64 a0, .int .i64 a1, .int .i64 a2]⟩]) (i := 0) rfl hcap (Nat.zero_le _)
        · intro a' w' h1 h2 h3
          go_wp2_with fail
          exact bodyPost_ret (results_tmp rfl _ _ _) h2 ⟨by rw [h1, Bool.true_and], HBW.out.trans (h3.mono HBW.out.size)⟩
end Go.Proofs.YtpejolnjnkcolaaDoor

/-
  Whether a propagator holds: the document's own answer.
-/
namespace Go.Proofs.YtpejolnjnkcolaaDoor
open Go Go.RowKit Go.Ev

set_option maxRecDepth 100000 in
set_option maxHeartbeats 8000000 in
theorem ho_max (x : ByteArray) (vs cs us : List Int) (n : Int) (A B D : Option Addr) (c1 c2 c3 : Nat) (w : World) (hx : x.toList = [109, 97, 120]) (ha : Ints w A vs) (hb : Ints w B cs) (hd : Ints w D us) (hcc : cs.length ≤ c2) (hn : -9223372036854775808 ≤ n ∧ n ≤ 9223372036854775807) :
    Calls Tryd.prog 26 #[.agg #[.string x, .slice A vs.length c1, .slice B cs.length c2, .int .i64 n], .slice D us.length c3] w fun e w' => e = .returned (.bool (vpCore 3 0 0 false false false vs cs n us.length && decide (nthI (pick vs us) 2 = max (nthI (pick vs us) 0) (nthI (pick vs us) 1)))) ∧ Below w.heap.size w w' := by
  have VP := Lib.hid (fun w' (h : Below w.heap.size w w') => vp_max x vs cs n us.length A B c1 c2 w' hx (ha.over h) (hb.over h) (by have := hd.1; omega))
  have HD := Lib.hid hd
  have HA0 := Lib.hid ha
  have HB0 := Lib.hid hb
  obtain ⟨ha1, ha2, ha3⟩ := ha
  obtain ⟨hb1, hb2, hb3⟩ := hb
  obtain ⟨hd1, hd2, hd3⟩ := hd
  have k_sum : (x.toList == [115, 117, 109]) = false := by rw [hx]; rfl
  have k_most : (x.toList == [109, 111, 115, 116]) = false := by rw [hx]; rfl
  have k_distinct : (x.toList == [100, 105, 115, 116, 105, 110, 99, 116]) = false := by rw [hx]; rfl
  have k_unlike : (x.toList == [117, 110, 108, 105, 107, 101]) = false := by rw [hx]; rfl
  have k_product : (x.toList == [112, 114, 111, 100, 117, 99, 116]) = false := by rw [hx]; rfl
  have k_max : (x.toList == [109, 97, 120]) = true := by rw [hx]; rfl
  have k_reify : (x.toList == [114, 101, 105, 102, 121]) = false := by rw [hx]; rfl
  have k_element : (x.toList == [101, 108, 101, 109, 101, 110, 116]) = false := by rw [hx]; rfl
  have k_apart : (x.toList == [97, 112, 97, 114, 116]) = false := by rw [hx]; rfl
  clear hx
  generalize hV : vpCore 3 0 0 false false false vs cs n us.length = V at VP
  generalize hW : decide (nthI (pick vs us) 2 = max (nthI (pick vs us) 0) (nthI (pick vs us) 1)) = W
  have VF := Lib.hid (fun e : V = true => vp_facts (hV.trans e))
  have HW := Lib.hid hW
  have HA := Lib.hid ha3
  have HB := Lib.hid hb3
  have HU := Lib.hid hd3
  have HU2 := Lib.hid hd2
  clear hV hW ha2 hb2 hd2 ha3 hb3 hd3
  have B0 := Lib.hid (show ∀ o, Below w.heap.size w (w.alloc o) from fun o => (Below.refl _ _).alloc (Nat.le_refl _) _)
  obtain ⟨i0, hi, hz0, hz1, hz2⟩ := info_parts infoI
  go_enter Tryd.func26, Tryd.ntmps26
  go_wp2_with fail
  refine (VP.out _ (B0.out _)).mono ?_
  rintro e w1 ⟨rfl, hb⟩
  have hbx : w1.heap[w.heap.size]? = some (.cells #[.string x, .slice A vs.length c1, .slice B cs.length c2, .int .i64 n] 37 (0, 0)) := (hb.block w.heap.size (by simp)).trans (by show (w.heap.push _)[w.heap.size]? = _; simp)
  have hbW := (B0.out (.cells #[.string x, .slice A vs.length c1, .slice B cs.length c2, .int .i64 n] 37)).trans (hb.mono (by simp))
  have HB1 := Lib.hid hbW
  have HX1 := Lib.hid hbx
  have hs1 := lt_of_block hbx
  clear hb hbW hbx VP
  cases V with
  | false =>
    go_wp2_with fail
    go_ret
    exact ⟨rfl, HB1.out⟩
  | true =>
    obtain ⟨⟨t1, t2, t3, t4, t5, t6⟩, vr, cr, nr⟩ := VF.out rfl
    have T4 := Lib.hid t4
    have VR := Lib.hid vr
    have CR := Lib.hid cr
    have NR := Lib.hid nr
    clear t4 vr cr nr VF
    go_wp2_with fail
    go_loopw [5, 6] (fun l i wr => ∃ (k : Nat) (G : Option Addr) (cap : Nat), k ≤ vs.length ∧ i = .int .i64 k ∧ l = .slice G k cap ∧ wr.ownsRow (w.heap.size + 1) 3 1 (.slice G k cap) k (((pick vs us).take k).map (Value.int .i64)) ∧ Below w.heap.size w wr ∧ wr.heap[w.heap.size]? = some (.cells #[.string x, .slice A vs.length c1, .slice B cs.length c2, .int .i64 n] 37 (0, 0))) (fun _ i _ => vs.length - (intOf i).toNat)
    case atStart => exact ⟨0, none, 0, Nat.zero_le _, rfl, rfl, by simpa using World.ownsRow_nil _ _ _ _, HB1.out, HX1.out⟩
    case round =>
      obtain ⟨k, G, cap, hk, rfl, rfl, hown, hbw, hbx⟩ := hrel
      have hsz := lt_of_block hbx
      have d0 : wr.cell? ⟨w.heap.size, 0, none⟩ = some (.string x) := by simp [World.cell?, hbx]
      have d1 : wr.cell? ⟨w.heap.size, 1, none⟩ = some (.slice A vs.length c1) := by simp [World.cell?, hbx]
      have d2 : wr.cell? ⟨w.heap.size, 2, none⟩ = some (.slice B cs.length c2) := by simp [World.cell?, hbx]
      have d3 : wr.cell? ⟨w.heap.size, 3, none⟩ = some (.int .i64 n) := by simp [World.cell?, hbx]
      have HO := Lib.hid hown
      have HBW := Lib.hid hbw
      have HBX := Lib.hid hbx
      clear hown hbw hbx HB1 HX1
      by_cases hlt : k < vs.length
      · obtain ⟨b1, o1, eA, hb1', f1⟩ := HA.out (by omega)
        rw [eA] at d1
        have EA := Lib.hid eA
        clear eA
        have x1 := (HBW.out.cell (p := ⟨b1, o1 + k, none⟩) hb1').trans (f1 k hlt)
        have hv := VR.out k hlt
        have hvlt : (vs[k]).toNat < us.length := by omega
        obtain ⟨b2, o2, rfl, hb2', f2⟩ := HU.out (by omega)
        have x2 := (HBW.out.cell (p := ⟨b2, o2 + (vs[k]).toNat, none⟩) hb2').trans (f2 _ hvlt)
        have PK := Lib.hid (show (pick vs us).take (k + 1) = (pick vs us).take k ++ [us[(vs[k]).toNat]] by
          rw [List.take_succ_eq_append_getElem (by simp [pick]; omega)]
          simp [pick, nthI, List.getD_eq_getElem?_getD, List.getElem?_eq_getElem hvlt])
        generalize us[(vs[k]).toNat] = u at *
        generalize vs[k] = v at *
        obtain ⟨q, rfl⟩ : ∃ q : Nat, v = q := ⟨v.toNat, by omega⟩
        simp only [Int.toNat_natCast] at x2 hvlt
        clear f1 f2 HA HU VR HW
        have z3 : (k : Int) < (vs.length : Int) := by omega
        have z4 : (0 : Int) ≤ (k : Int) := by omega
        have z5 : (q : Int) < (us.length : Int) := by omega
        have z6 : (0 : Int) ≤ (q : Int) := by omega
        have hlen : (((pick vs us).take k).map (Value.int .i64)).length = k := by simp [pick]; omega
        go_wp2_with (at_builtin; refine wpList_append_own _ rfl _ _ 23 rfl (w.heap.size + 1) 3 i0 (.int .i64 0) 1 8 Tryd.underlying23 hi hz0 hz1 hz2 rfl (by decide) _ _ _ rfl (HO.out.alloc _) ⟨wr.heap.size, 0, none⟩ 1 1 [.int .i64 u] rfl rfl ?c1 ?c2 ?c3 ?c4 ?c5 ?_)
        case c1 =>
          intro j z hj
          match j, hj with
          | 0, hj => simp at hj; subst hj; simp [Addr.add]
        case c2 => intro z hz; simp at hz; subst hz; rfl
        case c3 => unfold maxLen; omega
        case c4 => omega
        case c5 => simp; omega
        intro v' w2 hown' hgrow _
        obtain ⟨A', cap', hv'⟩ : ∃ A' cap', v' = .slice A' (k + 1) cap' := by
          rcases hown'.2 with ⟨_, hz⟩ | ⟨g, cap, cur, hv, _⟩
          · omega
          · exact ⟨some ⟨g, 0, none⟩, cap, by rw [hv]⟩
        have hb2 : Below w.heap.size w w2 := (HBW.out.alloc HBW.out.size _).grown hgrow (by simp; omega) (fun j hj => by have := (HO.out.lt j hj).1; omega)
        have hbx2 : w2.heap[w.heap.size]? = some (.cells #[.string x, .slice A vs.length c1, .slice B cs.length c2, .int .i64 n] 37 (0, 0)) := by
          have hb3 : Below (w.heap.size + 1) wr w2 := ((Below.refl _ wr).alloc (by omega) _).grown hgrow (by simp; omega) (fun j hj => (HO.out.lt j hj).1)
          exact (hb3.block _ (by omega)).trans HBX.out
        have OW := Lib.hid (show w2.ownsRow (w.heap.size + 1) 3 1 (.slice A' (k + 1) cap') (k + 1) (((pick vs us).take (k + 1)).map (Value.int .i64)) by rw [← hv', PK.out]; simpa using hown')
        have VV := Lib.hid hv'
        have HB2 := Lib.hid hb2
        have HX2 := Lib.hid hbx2
        clear hown' hgrow hv' hb2 hbx2
        go_wp2_with fail
        go_roundw
        case rel => exact ⟨k + 1, A', cap', by omega, by go_num, VV.out, OW.out, HB2.out, HX2.out⟩
        case measure => simp [intOf]; omega
      · obtain rfl : k = vs.length := by omega
        have hlt' : decide ((vs.length : Int) < (vs.length : Int)) = false := by simp
        obtain ⟨a0, a1, a2, eP⟩ := three (l := pick vs us) (by have := T4.out; simp [pick]; omega)
        have rng := pick_range (vs := vs) HU2.out
        have ho := HO.out
        have hw := HW.out
        rw [List.take_of_length_le (by simp [pick])] at ho
        have e3 : vs.length = 3 := by have := T4.out; omega
        rw [eP] at rng ho hw
        have r0 := rng a0 (by simp)
        have r1 := rng a1 (by simp)
        have r2 := rng a2 (by simp)
        simp only [nthI, List.getD_cons_zero, List.getD_cons_succ] at hw
        obtain ⟨g, rfl, hcap, hgb, hgs, arr, ee, fz, q1, q2, q3⟩ := own_at ho (by omega)
        have y0 : wr.cell? ⟨g, 0, none⟩ = some (.int .i64 a0) := by
          have h4 := congrArg (fun q => q[0]?) q2
          simp at h4
          simp [World.cell?, q1]
          exact h4
        have y1 : wr.cell? ⟨g, 1, none⟩ = some (.int .i64 a1) := by
          have h4 := congrArg (fun q => q[1]?) q2
          simp at h4
          simp [World.cell?, q1]
          exact h4
        have y2 : wr.cell? ⟨g, 2, none⟩ = some (.int .i64 a2) := by
          have h4 := congrArg (fun q => q[2]?) q2
          simp at h4
          simp [World.cell?, q1]
          exact h4
        subst hw
        clear ho eP rng HW HO q1 q2 q3 HA HU
        have E3 := Lib.hid e3
        clear e3
        go_wp2_with fail
        rw [E3.out]
        go_region
        all_goals go_wp2_with fail
        all_goals go_ret
        all_goals refine ⟨?_, by first | exact HBW.out | exact HBW.out.drew | exact below_drewN HBW.out _⟩
        all_goals first
          | rfl
          | (show Ending.returned (.bool _) = Ending.returned (.bool _)
             congr 2
             rw [Bool.eq_iff_iff]
             simp only [beq_iff_eq, decide_eq_true_eq, Bool.true_and]
             omega)
end Go.Proofs.YtpejolnjnkcolaaDoor

/-
  Whether a propagator holds: the document's own answer.
-/
namespace Go.Proofs.YtpejolnjnkcolaaDoor
open Go Go.RowKit Go.Ev

def rOps (p1 p0 : Bool) : OpO where
  bin b _ v u := match b, v, u with
    | .eql, .chan (some 0), .int .i64 1 => some (.bool p1)
    | .eql, .chan (some 0), .int .i64 0 => some (.bool p0)
    | _, _, _ => none
  len _ _ := none
  un _ _ := none
def rOrc (b : Bool) : Orc := fun k args _ => match args with
  | [.chan (some 1), .chan (some 2), .chan (some 6)] => if Nat.beq k 47 then some (.bool b) else none
  | _ => none
theorem rOps_ok {w0 : W0} {a0 : Int} (e0 : w0.env 0 = .int .i64 a0) : OpOk Tryd.prog w0 (rOps (a0 == 1) (a0 == 0)) := by
  refine ⟨fun b t v u r h φ sy v' u' hv hu xo yo w1 => ?_, fun t v r h => (nomatch h), fun o v r h => (nomatch h)⟩
  simp only [rOps] at h
  split at h
  · cases h
    rw [one_sym sy hv, plain_eq 0 _ _ rfl hu, e0]
    exact ⟨_, op_eql, .leaf rfl⟩
  · cases h
    rw [one_sym sy hv, plain_eq 0 _ _ rfl hu, e0]
    exact ⟨_, op_eql, .leaf rfl⟩
  · cases h
theorem rOrc_ok {w0 : W0} {a1 a2 n : Int} (e1 : w0.env 1 = .int .i64 a1) (e2 : w0.env 2 = .int .i64 a2) (e6 : w0.env 6 = .int .i64 n) (r1 : -9223372036854775808 ≤ a1 ∧ a1 ≤ 9223372036854775807) (r2 : -9223372036854775808 ≤ a2 ∧ a2 ≤ 9223372036854775807) (rn : -9223372036854775808 ≤ n ∧ n ≤ 9223372036854775807) :
    OrcOk Tryd.prog w0 (rOrc (decide (a1 - a2 ≤ n))) := by
  refine orc_plain fun k args st v h => ?_
  unfold rOrc at h
  split at h
  · split at h
    · rename_i hk
      obtain rfl := Nat.eq_of_beq_eq_true hk
      cases h
      refine ⟨rfl, fun φ args' sy hl w1 => ?_⟩
      obtain ⟨x, y, z, rfl, hx, hy, hz⟩ := lr3 hl
      rw [one_sym sy hx, one_sym sy hy, one_sym sy hz, e1, e2, e6]
      exact ⟨fun w => enters Tryd.func47 (by decide +kernel) (by kernel_rfl) _ w, atMost_any a1 a2 n w1 r1 r2 rn⟩
    · cases h
  · cases h

set_option maxRecDepth 100000 in
set_option maxHeartbeats 8000000 in
theorem ho_reify (x : ByteArray) (vs cs us : List Int) (n : Int) (A B D : Option Addr) (c1 c2 c3 : Nat) (w : World) (hx : x.toList = [114, 101, 105, 102, 121]) (ha : Ints w A vs) (hb : Ints w B cs) (hd : Ints w D us) (hcc : cs.length ≤ c2) (hn : -9223372036854775808 ≤ n ∧ n ≤ 9223372036854775807) :
    Calls Tryd.prog 26 #[.agg #[.string x, .slice A vs.length c1, .slice B cs.length c2, .int .i64 n], .slice D us.length c3] w fun e w' => e = .returned (.bool (vpCore 3 0 0 false false true vs cs n us.length && (decide (nthI (pick vs us) 0 = 1) && decide (nthI (pick vs us) 1 - nthI (pick vs us) 2 ≤ n) || decide (nthI (pick vs us) 0 = 0) && !decide (nthI (pick vs us) 1 - nthI (pick vs us) 2 ≤ n)))) ∧ Below w.heap.size w w' := by
  have VP := Lib.hid (fun w' (h : Below w.heap.size w w') => vp_reify x vs cs n us.length A B c1 c2 w' hx (ha.over h) (hb.over h) (by have := hd.1; omega))
  have HD := Lib.hid hd
  have HA0 := Lib.hid ha
  have HB0 := Lib.hid hb
  obtain ⟨ha1, ha2, ha3⟩ := ha
  obtain ⟨hb1, hb2, hb3⟩ := hb
  obtain ⟨hd1, hd2, hd3⟩ := hd
  have k_sum : (x.toList == [115, 117, 109]) = false := by rw [hx]; rfl
  have k_most : (x.toList == [109, 111, 115, 116]) = false := by rw [hx]; rfl
  have k_distinct : (x.toList == [100, 105, 115, 116, 105, 110, 99, 116]) = false := by rw [hx]; rfl
  have k_unlike : (x.toList == [117, 110, 108, 105, 107, 101]) = false := by rw [hx]; rfl
  have k_product : (x.toList == [112, 114, 111, 100, 117, 99, 116]) = false := by rw [hx]; rfl
  have k_max : (x.toList == [109, 97, 120]) = false := by rw [hx]; rfl
  have k_reify : (x.toList == [114, 101, 105, 102, 121]) = true := by rw [hx]; rfl
  have k_element : (x.toList == [101, 108, 101, 109, 101, 110, 116]) = false := by rw [hx]; rfl
  have k_apart : (x.toList == [97, 112, 97, 114, 116]) = false := by rw [hx]; rfl
  clear hx
  generalize hV : vpCore 3 0 0 false false true vs cs n us.length = V at VP
  generalize hW : (decide (nthI (pick vs us) 0 = 1) && decide (nthI (pick vs us) 1 - nthI (pick vs us) 2 ≤ n) || decide (nthI (pick vs us) 0 = 0) && !decide (nthI (pick vs us) 1 - nthI (pick vs us) 2 ≤ n)) = W
  have VF := Lib.hid (fun e : V = true => vp_facts (hV.trans e))
  have HW := Lib.hid hW
  have HA := Lib.hid ha3
  have HB := Lib.hid hb3
  have HU := Lib.hid hd3
  have HU2 := Lib.hid hd2
  clear hV hW ha2 hb2 hd2 ha3 hb3 hd3
  have B0 := Lib.hid (show ∀ o, Below w.heap.size w (w.alloc o) from fun o => (Below.refl _ _).alloc (Nat.le_refl _) _)
  obtain ⟨i0, hi, hz0, hz1, hz2⟩ := info_parts infoI
  go_enter Tryd.func26, Tryd.ntmps26
  go_wp2_with fail
  refine (VP.out _ (B0.out _)).mono ?_
  rintro e w1 ⟨rfl, hb⟩
  have hbx : w1.heap[w.heap.size]? = some (.cells #[.string x, .slice A vs.length c1, .slice B cs.length c2, .int .i64 n] 37 (0, 0)) := (hb.block w.heap.size (by simp)).trans (by show (w.heap.push _)[w.heap.size]? = _; simp)
  have hbW := (B0.out (.cells #[.string x, .slice A vs.length c1, .slice B cs.length c2, .int .i64 n] 37)).trans (hb.mono (by simp))
  have HB1 := Lib.hid hbW
  have HX1 := Lib.hid hbx
  have hs1 := lt_of_block hbx
  clear hb hbW hbx VP
  cases V with
  | false =>
    go_wp2_with fail
    go_ret
    exact ⟨rfl, HB1.out⟩
  | true =>
    obtain ⟨⟨t1, t2, t3, t4, t5, t6⟩, vr, cr, nr⟩ := VF.out rfl
    have T4 := Lib.hid t4
    have VR := Lib.hid vr
    have CR := Lib.hid cr
    have NR := Lib.hid nr
    clear t4 vr cr nr VF
    go_wp2_with fail
    go_loopw [5, 6] (fun l i wr => ∃ (k : Nat) (G : Option Addr) (cap : Nat), k ≤ vs.length ∧ i = .int .i64 k ∧ l = .slice G k cap ∧ wr.ownsRow (w.heap.size + 1) 3 1 (.slice G k cap) k (((pick vs us).take k).map (Value.int .i64)) ∧ Below w.heap.size w wr ∧ wr.heap[w.heap.size]? = some (.cells #[.string x, .slice A vs.length c1, .slice B cs.length c2, .int .i64 n] 37 (0, 0))) (fun _ i _ => vs.length - (intOf i).toNat)
    case atStart => exact ⟨0, none, 0, Nat.zero_le _, rfl, rfl, by simpa using World.ownsRow_nil _ _ _ _, HB1.out, HX1.out⟩
    case round =>
      obtain ⟨k, G, cap, hk, rfl, rfl, hown, hbw, hbx⟩ := hrel
      have hsz := lt_of_block hbx
      have d0 : wr.cell? ⟨w.heap.size, 0, none⟩ = some (.string x) := by simp [World.cell?, hbx]
      have d1 : wr.cell? ⟨w.heap.size, 1, none⟩ = some (.slice A vs.length c1) := by simp [World.cell?, hbx]
      have d2 : wr.cell? ⟨w.heap.size, 2, none⟩ = some (.slice B cs.length c2) := by simp [World.cell?, hbx]
      have d3 : wr.cell? ⟨w.heap.size, 3, none⟩ = some (.int .i64 n) := by simp [World.cell?, hbx]
      have HO := Lib.hid hown
      have HBW := Lib.hid hbw
      have HBX := Lib.hid hbx
      clear hown hbw hbx HB1 HX1
      by_cases hlt : k < vs.length
      · obtain ⟨b1, o1, eA, hb1', f1⟩ := HA.out (by omega)
        rw [eA] at d1
        have EA := Lib.hid eA
        clear eA
        have x1 := (HBW.out.cell (p := ⟨b1, o1 + k, none⟩) hb1').trans (f1 k hlt)
        have hv := VR.out k hlt
        have hvlt : (vs[k]).toNat < us.length := by omega
        obtain ⟨b2, o2, rfl, hb2', f2⟩ := HU.out (by omega)
        have x2 := (HBW.out.cell (p := ⟨b2, o2 + (vs[k]).toNat, none⟩) hb2').trans (f2 _ hvlt)
        have PK := Lib.hid (show (pick vs us).take (k + 1) = (pick vs us).take k ++ [us[(vs[k]).toNat]] by
          rw [List.take_succ_eq_append_getElem (by simp [pick]; omega)]
          simp [pick, nthI, List.getD_eq_getElem?_getD, List.getElem?_eq_getElem hvlt])
        generalize us[(vs[k]).toNat] = u at *
        generalize vs[k] = v at *
        obtain ⟨q, rfl⟩ : ∃ q : Nat, v = q := ⟨v.toNat, by omega⟩
        simp only [Int.toNat_natCast] at x2 hvlt
        clear f1 f2 HA HU VR HW
        have z3 : (k : Int) < (vs.length : Int) := by omega
        have z4 : (0 : Int) ≤ (k : Int) := by omega
        have z5 : (q : Int) < (us.length : Int) := by omega
        have z6 : (0 : Int) ≤ (q : Int) := by omega
        have hlen : (((pick vs us).take k).map (Value.int .i64)).length = k := by simp [pick]; omega
        go_wp2_with (at_builtin; refine wpList_append_own _ rfl _ _ 23 rfl (w.heap.size + 1) 3 i0 (.int .i64 0) 1 8 Tryd.underlying23 hi hz0 hz1 hz2 rfl (by decide) _ _ _ rfl (HO.out.alloc _) ⟨wr.heap.size, 0, none⟩ 1 1 [.int .i64 u] rfl rfl ?c1 ?c2 ?c3 ?c4 ?c5 ?_)
        case c1 =>
          intro j z hj
          match j, hj with
          | 0, hj => simp at hj; subst hj; simp [Addr.add]
        case c2 => intro z hz; simp at hz; subst hz; rfl
        case c3 => unfold maxLen; omega
        case c4 => omega
        case c5 => simp; omega
        intro v' w2 hown' hgrow _
        obtain ⟨A', cap', hv'⟩ : ∃ A' cap', v' = .slice A' (k + 1) cap' := by
          rcases hown'.2 with ⟨_, hz⟩ | ⟨g, cap, cur, hv, _⟩
          · omega
          · exact ⟨some ⟨g, 0, none⟩, cap, by rw [hv]⟩
        have hb2 : Below w.heap.size w w2 := (HBW.out.alloc HBW.out.size _).grown hgrow (by simp; omega) (fun j hj => by have := (HO.out.lt j hj).1; omega)
        have hbx2 : w2.heap[w.heap.size]? = some (.cells #[.string x, .slice A vs.length c1, .slice B cs.length c2, .int .i64 n] 37 (0, 0)) := by
          have hb3 : Below (w.heap.size + 1) wr w2 := ((Below.refl _ wr).alloc (by omega) _).grown hgrow (by simp; omega) (fun j hj => (HO.out.lt j hj).1)
          exact (hb3.block _ (by omega)).trans HBX.out
        have OW := Lib.hid (show w2.ownsRow (w.heap.size + 1) 3 1 (.slice A' (k + 1) cap') (k + 1) (((pick vs us).take (k + 1)).map (Value.int .i64)) by rw [← hv', PK.out]; simpa using hown')
        have VV := Lib.hid hv'
        have HB2 := Lib.hid hb2
        have HX2 := Lib.hid hbx2
        clear hown' hgrow hv' hb2 hbx2
        go_wp2_with fail
        go_roundw
        case rel => exact ⟨k + 1, A', cap', by omega, by go_num, VV.out, OW.out, HB2.out, HX2.out⟩
        case measure => simp [intOf]; omega
      · obtain rfl : k = vs.length := by omega
        have hlt' : decide ((vs.length : Int) < (vs.length : Int)) = false := by simp
        obtain ⟨a0, a1, a2, eP⟩ := three (l := pick vs us) (by have := T4.out; simp [pick]; omega)
        have rng := pick_range (vs := vs) HU2.out
        have ho := HO.out
        have hw := HW.out
        rw [List.take_of_length_le (by simp [pick])] at ho
        have e3 : vs.length = 3 := by have := T4.out; omega
        rw [eP] at rng ho hw
        have r0 := rng a0 (by simp)
        have r1 := rng a1 (by simp)
        have r2 := rng a2 (by simp)
        simp only [nthI, List.getD_cons_zero, List.getD_cons_succ] at hw
        have E3 := Lib.hid e3
        obtain ⟨g, rfl, hcap, hgb, hgs, hrow⟩ := own_at ho (by omega)
        rw [e3] at hcap
        have HRW := Lib.hid hrow
        subst hw
        clear hrow ho eP rng HW HO e3
        go_wp2_with fail
        rw [E3.out]
        refine reg_ok mixed (w0 := (iW wr [.int .i64 a0, .int .i64 a1, .int .i64 a2, .string x, .slice A vs.length c1, .slice B cs.length c2, .int .i64 n] (by intro v hv; simp at hv; rcases hv with rfl | rfl | rfl | rfl | rfl | rfl | rfl <;> exact ⟨rfl, rfl⟩))) (lift_ok2 (rOps_ok (a0 := a0) rfl) (rOrc_ok (a1 := a1) (a2 := a2) (n := n) rfl rfl rfl r1 r2 hn)) (f := frOf 200 [(5, .slice (some ⟨7, 0, none⟩) 3 3), (2, .pointer (some ⟨8, 0, none⟩))]) (t := 4) (v := .bool ((decide (a0 = 1) && decide (a1 - a2 ≤ n) || decide (a0 = 0) && !decide (a1 - a2 ≤ n)))) rfl ?_ (HR.rows _ [⟨g, 0, [.chan (some 0), .chan (some 1), .chan (some 2)], [.int .i64 a0, .int .i64 a1, .int .i64 a2]⟩, ⟨w.heap.size, 0, [.chan (some 3), .chan (some 4), .chan (some 5), .chan (some 6)], [.string x, .slice A vs.length c1, .slice B cs.length c2, .int .i64 n]⟩] ?_) (frOf_ok rfl rfl ?_) ?_
        · rw [show decide (a0 = 1) = (a0 == 1) by rw [Bool.eq_iff_iff]; simp, show decide (a0 = 0) = (a0 == 0) by rw [Bool.eq_iff_iff]; simp]
          generalize decide (a1 - a2 ≤ n) = b
          generalize (a0 == 1) = p1
          generalize (a0 == 0) = p0
          cases b <;> cases p1 <;> cases p0 <;> kernel_rfl
        · have sy := rowsφ_sy (iW wr [.int .i64 a0, .int .i64 a1, .int .i64 a2, .string x, .slice A vs.length c1, .slice B cs.length c2, .int .i64 n] (by intro v hv; simp at hv; rcases hv with rfl | rfl | rfl | rfl | rfl | rfl | rfl <;> exact ⟨rfl, rfl⟩)) [⟨g, 0, [.chan (some 0), .chan (some 1), .chan (some 2)], [.int .i64 a0, .int .i64 a1, .int .i64 a2]⟩, ⟨w.heap.size, 0, [.chan (some 3), .chan (some 4), .chan (some 5), .chan (some 6)], [.string x, .slice A vs.length c1, .slice B cs.length c2, .int .i64 n]⟩]
          intro y hy
          simp only [List.mem_cons, List.not_mem_nil, or_false] at hy
          rcases hy with rfl | rfl
          · exact ⟨(LR.cons (sym_i sy (by simp)) (LR.cons (sym_i sy (by simp)) (LR.cons (sym_i sy (by simp)) (LR.nil)))), hgs, HRW.out⟩
          · exact ⟨(LR.cons (sym_i sy (by simp)) (LR.cons (sym_i sy (by simp)) (LR.cons (sym_i sy (by simp)) (LR.cons (sym_i sy (by simp)) (LR.nil))))), hsz, _, _, _, HBX.out, by simp, by simp⟩
        · have sy := rowsφ_sy (iW wr [.int .i64 a0, .int .i64 a1, .int .i64 a2, .string x, .slice A vs.length c1, .slice B cs.length c2, .int .i64 n] (by intro v hv; simp at hv; rcases hv with rfl | rfl | rfl | rfl | rfl | rfl | rfl <;> exact ⟨rfl, rfl⟩)) [⟨g, 0, [.chan (some 0), .chan (some 1), .chan (some 2)], [.int .i64 a0, .int .i64 a1, .int .i64 a2]⟩, ⟨w.heap.size, 0, [.chan (some 3), .chan (some 4), .chan (some 5), .chan (some 6)], [.string x, .slice A vs.length c1, .slice B cs.length c2, .int .i64 n]⟩]
          intro y hy
          simp only [List.mem_cons, List.not_mem_nil, or_false] at hy
          rcases hy with rfl | rfl
          · exact row_slice (w0 := (iW wr [.int .i64 a0, .int .i64 a1, .int .i64 a2, .string x, .slice A vs.length c1, .slice B cs.length c2, .int .i64 n] (by intro v hv; simp at hv; rcases hv with rfl | rfl | rfl | rfl | rfl | rfl | rfl <;> exact ⟨rfl, rfl⟩))) (rs := [⟨g, 0, [.chan (some 0), .chan (some 1), .chan (some 2)], [.int .i64 a0, .int .i64 a1, .int .i64 a2]⟩, ⟨w.heap.size, 0, [.chan (some 3), .chan (some 4), .chan (some 5), .chan (some 6)], [.string x, .slice A vs.length c1, .slice B cs.length c2, .int .i64 n]⟩]) (i := 0) rfl hcap (Nat.zero_le _)
          · exact row_ptr (w0 := (iW wr [.int .i64 a0, .int .i64 a1, .int .i64 a2, .string x, .slice A vs.length c1, .slice B cs.length c2, .int .i64 n] (by intro v hv; simp at hv; rcases hv with rfl | rfl | rfl | rfl | rfl | rfl | rfl <;> exact ⟨rfl, rfl⟩))) (rs := [⟨g, 0, [.chan (some 0), .chan (some 1), .chan (some 2)], [.int .i64 a0, .int .i64 a1, .int .i64 a2]⟩, ⟨w.heap.size, 0, [.chan (some 3), .chan (some 4), .chan (some 5), .chan (some 6)], [.string x, .slice A vs.length c1, .slice B cs.length c2, .int .i64 n]⟩]) (i := 1) rfl 0
        · intro a' w' h1 h2 h3
          go_wp2_with fail
          exact bodyPost_ret (results_tmp rfl _ _ _) h2 ⟨by rw [h1, Bool.true_and], HBW.out.trans (h3.mono HBW.out.size)⟩
end Go.Proofs.YtpejolnjnkcolaaDoor

/-
  Whether a propagator holds: the document's own answer.
-/
namespace Go.Proofs.YtpejolnjnkcolaaDoor
open Go Go.RowKit Go.Ev

set_option maxRecDepth 100000 in
set_option maxHeartbeats 8000000 in
theorem ho_element (x : ByteArray) (vs cs us : List Int) (n : Int) (A B D : Option Addr) (c1 c2 c3 : Nat) (w : World) (hx : x.toList = [101, 108, 101, 109, 101, 110, 116]) (ha : Ints w A vs) (hb : Ints w B cs) (hd : Ints w D us) (hcc : cs.length ≤ c2) (hn : -9223372036854775808 ≤ n ∧ n ≤ 9223372036854775807) :
    Calls Tryd.prog 26 #[.agg #[.string x, .slice A vs.length c1, .slice B cs.length c2, .int .i64 n], .slice D us.length c3] w fun e w' => e = .returned (.bool (vpCore 2 1 40 false false false vs cs n us.length && (decide (1 ≤ nthI (pick vs us) 0) && decide (nthI (pick vs us) 0 ≤ cs.length) && decide (nthI cs (nthI (pick vs us) 0 - 1).toNat = nthI (pick vs us) 1)))) ∧ Below w.heap.size w w' := by
  have VP := Lib.hid (fun w' (h : Below w.heap.size w w') => vp_element x vs cs n us.length A B c1 c2 w' hx (ha.over h) (hb.over h) (by have := hd.1; omega))
  have HD := Lib.hid hd
  have HA0 := Lib.hid ha
  have HB0 := Lib.hid hb
  obtain ⟨ha1, ha2, ha3⟩ := ha
  obtain ⟨hb1, hb2, hb3⟩ := hb
  obtain ⟨hd1, hd2, hd3⟩ := hd
  have k_sum : (x.toList == [115, 117, 109]) = false := by rw [hx]; rfl
  have k_most : (x.toList == [109, 111, 115, 116]) = false := by rw [hx]; rfl
  have k_distinct : (x.toList == [100, 105, 115, 116, 105, 110, 99, 116]) = false := by rw [hx]; rfl
  have k_unlike : (x.toList == [117, 110, 108, 105, 107, 101]) = false := by rw [hx]; rfl
  have k_product : (x.toList == [112, 114, 111, 100, 117, 99, 116]) = false := by rw [hx]; rfl
  have k_max : (x.toList == [109, 97, 120]) = false := by rw [hx]; rfl
  have k_reify : (x.toList == [114, 101, 105, 102, 121]) = false := by rw [hx]; rfl
  have k_element : (x.toList == [101, 108, 101, 109, 101, 110, 116]) = true := by rw [hx]; rfl
  have k_apart : (x.toList == [97, 112, 97, 114, 116]) = false := by rw [hx]; rfl
  clear hx
  generalize hV : vpCore 2 1 40 false false false vs cs n us.length = V at VP
  generalize hW : (decide (1 ≤ nthI (pick vs us) 0) && decide (nthI (pick vs us) 0 ≤ cs.length) && decide (nthI cs (nthI (pick vs us) 0 - 1).toNat = nthI (pick vs us) 1)) = W
  have VF := Lib.hid (fun e : V = true => vp_facts (hV.trans e))
  have HW := Lib.hid hW
  have HA := Lib.hid ha3
  have HB := Lib.hid hb3
  have HU := Lib.hid hd3
  have HU2 := Lib.hid hd2
  clear hV hW ha2 hb2 hd2 ha3 hb3 hd3
  have B0 := Lib.hid (show ∀ o, Below w.heap.size w (w.alloc o) from fun o => (Below.refl _ _).alloc (Nat.le_refl _) _)
  obtain ⟨i0, hi, hz0, hz1, hz2⟩ := info_parts infoI
  go_enter Tryd.func26, Tryd.ntmps26
  go_wp2_with fail
  refine (VP.out _ (B0.out _)).mono ?_
  rintro e w1 ⟨rfl, hb⟩
  have hbx : w1.heap[w.heap.size]? = some (.cells #[.string x, .slice A vs.length c1, .slice B cs.length c2, .int .i64 n] 37 (0, 0)) := (hb.block w.heap.size (by simp)).trans (by show (w.heap.push _)[w.heap.size]? = _; simp)
  have hbW := (B0.out (.cells #[.string x, .slice A vs.length c1, .slice B cs.length c2, .int .i64 n] 37)).trans (hb.mono (by simp))
  have HB1 := Lib.hid hbW
  have HX1 := Lib.hid hbx
  have hs1 := lt_of_block hbx
  clear hb hbW hbx VP
  cases V with
  | false =>
    go_wp2_with fail
    go_ret
    exact ⟨rfl, HB1.out⟩
  | true =>
    obtain ⟨⟨t1, t2, t3, t4, t5, t6⟩, vr, cr, nr⟩ := VF.out rfl
    have T4 := Lib.hid t4
    have VR := Lib.hid vr
    have CR := Lib.hid cr
    have NR := Lib.hid nr
    clear t4 vr cr nr VF
    go_wp2_with fail
    go_loopw [5, 6] (fun l i wr => ∃ (k : Nat) (G : Option Addr) (cap : Nat), k ≤ vs.length ∧ i = .int .i64 k ∧ l = .slice G k cap ∧ wr.ownsRow (w.heap.size + 1) 3 1 (.slice G k cap) k (((pick vs us).take k).map (Value.int .i64)) ∧ Below w.heap.size w wr ∧ wr.heap[w.heap.size]? = some (.cells #[.string x, .slice A vs.length c1, .slice B cs.length c2, .int .i64 n] 37 (0, 0))) (fun _ i _ => vs.length - (intOf i).toNat)
    case atStart => exact ⟨0, none, 0, Nat.zero_le _, rfl, rfl, by simpa using World.ownsRow_nil _ _ _ _, HB1.out, HX1.out⟩
    case round =>
      obtain ⟨k, G, cap, hk, rfl, rfl, hown, hbw, hbx⟩ := hrel
      have hsz := lt_of_block hbx
      have d0 : wr.cell? ⟨w.heap.size, 0, none⟩ = some (.string x) := by simp [World.cell?, hbx]
      have d1 : wr.cell? ⟨w.heap.size, 1, none⟩ = some (.slice A vs.length c1) := by simp [World.cell?, hbx]
      have d2 : wr.cell? ⟨w.heap.size, 2, none⟩ = some (.slice B cs.length c2) := by simp [World.cell?, hbx]
      have d3 : wr.cell? ⟨w.heap.size, 3, none⟩ = some (.int .i64 n) := by simp [World.cell?, hbx]
      have HO := Lib.hid hown
      have HBW := Lib.hid hbw
      have HBX := Lib.hid hbx
      clear hown hbw hbx HB1 HX1
      by_cases hlt : k < vs.length
      · obtain ⟨b1, o1, eA, hb1', f1⟩ := HA.out (by omega)
        rw [eA] at d1
        have EA := Lib.hid eA
        clear eA
        have x1 := (HBW.out.cell (p := ⟨b1, o1 + k, none⟩) hb1').trans (f1 k hlt)
        have hv := VR.out k hlt
        have hvlt : (vs[k]).toNat < us.length := by omega
        obtain ⟨b2, o2, rfl, hb2', f2⟩ := HU.out (by omega)
        have x2 := (HBW.out.cell (p := ⟨b2, o2 + (vs[k]).toNat, none⟩) hb2').trans (f2 _ hvlt)
        have PK := Lib.hid (show (pick vs us).take (k + 1) = (pick vs us).take k ++ [us[(vs[k]).toNat]] by
          rw [List.take_succ_eq_append_getElem (by simp [pick]; omega)]
          simp [pick, nthI, List.getD_eq_getElem?_getD, List.getElem?_eq_getElem hvlt])
        generalize us[(vs[k]).toNat] = u at *
        generalize vs[k] = v at *
        obtain ⟨q, rfl⟩ : ∃ q : Nat, v = q := ⟨v.toNat, by omega⟩
        simp only [Int.toNat_natCast] at x2 hvlt
        clear f1 f2 HA HU VR HW
        have z3 : (k : Int) < (vs.length : Int) := by omega
        have z4 : (0 : Int) ≤ (k : Int) := by omega
        have z5 : (q : Int) < (us.length : Int) := by omega
        have z6 : (0 : Int) ≤ (q : Int) := by omega
        have hlen : (((pick vs us).take k).map (Value.int .i64)).length = k := by simp [pick]; omega
        go_wp2_with (at_builtin; refine wpList_append_own _ rfl _ _ 23 rfl (w.heap.size + 1) 3 i0 (.int .i64 0) 1 8 Tryd.underlying23 hi hz0 hz1 hz2 rfl (by decide) _ _ _ rfl (HO.out.alloc _) ⟨wr.heap.size, 0, none⟩ 1 1 [.int .i64 u] rfl rfl ?c1 ?c2 ?c3 ?c4 ?c5 ?_)
        case c1 =>
          intro j z hj
          match j, hj with
          | 0, hj => simp at hj; subst hj; simp [Addr.add]
        case c2 => intro z hz; simp at hz; subst hz; rfl
        case c3 => unfold maxLen; omega
        case c4 => omega
        case c5 => simp; omega
        intro v' w2 hown' hgrow _
        obtain ⟨A', cap', hv'⟩ : ∃ A' cap', v' = .slice A' (k + 1) cap' := by
          rcases hown'.2 with ⟨_, hz⟩ | ⟨g, cap, cur, hv, _⟩
          · omega
          · exact ⟨some ⟨g, 0, none⟩, cap, by rw [hv]⟩
        have hb2 : Below w.heap.size w w2 := (HBW.out.alloc HBW.out.size _).grown hgrow (by simp; omega) (fun j hj => by have := (HO.out.lt j hj).1; omega)
        have hbx2 : w2.heap[w.heap.size]? = some (.cells #[.string x, .slice A vs.length c1, .slice B cs.length c2, .int .i64 n] 37 (0, 0)) := by
          have hb3 : Below (w.heap.size + 1) wr w2 := ((Below.refl _ wr).alloc (by omega) _).grown hgrow (by simp; omega) (fun j hj => (HO.out.lt j hj).1)
          exact (hb3.block _ (by omega)).trans HBX.out
        have OW := Lib.hid (show w2.ownsRow (w.heap.size + 1) 3 1 (.slice A' (k + 1) cap') (k + 1) (((pick vs us).take (k + 1)).map (Value.int .i64)) by rw [← hv', PK.out]; simpa using hown')
        have VV := Lib.hid hv'
        have HB2 := Lib.hid hb2
        have HX2 := Lib.hid hbx2
        clear hown' hgrow hv' hb2 hbx2
        go_wp2_with fail
        go_roundw
        case rel => exact ⟨k + 1, A', cap', by omega, by go_num, VV.out, OW.out, HB2.out, HX2.out⟩
        case measure => simp [intOf]; omega
      · obtain rfl : k = vs.length := by omega
        have hlt' : decide ((vs.length : Int) < (vs.length : Int)) = false := by simp
        obtain ⟨a0, a1, eP⟩ := two (l := pick vs us) (by have := T4.out; simp [pick]; omega)
        have rng := pick_range (vs := vs) HU2.out
        have ho := HO.out
        have hw := HW.out
        rw [List.take_of_length_le (by simp [pick])] at ho
        have e3 : vs.length = 2 := by have := T4.out; omega
        rw [eP] at rng ho hw
        have r0 := rng a0 (by simp)
        have r1 := rng a1 (by simp)
        simp only [nthI, List.getD_cons_zero, List.getD_cons_succ] at hw
        obtain ⟨g, rfl, hcap, hgb, hgs, arr, ee, fz, q1, q2, q3⟩ := own_at ho (by omega)
        have y0 : wr.cell? ⟨g, 0, none⟩ = some (.int .i64 a0) := by
          have h4 := congrArg (fun q => q[0]?) q2
          simp at h4
          simp [World.cell?, q1]
          exact h4
        have y1 : wr.cell? ⟨g, 1, none⟩ = some (.int .i64 a1) := by
          have h4 := congrArg (fun q => q[1]?) q2
          simp at h4
          simp [World.cell?, q1]
          exact h4
        subst hw
        clear ho eP rng HW HO q1 q2 q3 HA HU
        have E3 := Lib.hid e3
        clear e3
        by_cases h1 : 1 ≤ a0
        · by_cases h2 : a0 ≤ cs.length
          · obtain ⟨q, rfl⟩ : ∃ q : Nat, a0 = (q : Int) + 1 := ⟨(a0 - 1).toNat, by omega⟩
            have hq : q < cs.length := by omega
            obtain ⟨bq, oq, eB, hbq, fq⟩ := HB.out (by omega)
            have x1 := (HBW.out.cell (p := ⟨bq, oq + q, none⟩) hbq).trans (fq q hq)
            have EV := Lib.hid (show nthI cs ((q : Int) + 1 - 1).toNat = cs[q] by
              rw [show ((q : Int) + 1 - 1).toNat = q by omega]
              simp [nthI, List.getD_eq_getElem?_getD, List.getElem?_eq_getElem hq])
            rw [eB] at d2
            generalize cs[q] = v at x1 EV
            have z1 : (q : Int) < (cs.length : Int) := by omega
            have z2 : (0 : Int) ≤ (q : Int) := by omega
            have z3 : IntKind.i64.wrap ((q : Int) + 1 - 1) = (q : Int) := by rw [IntKind.wrap_i64]; omega
            have g1 : decide ((q : Int) + 1 ≥ 1) = true := by simp; omega
            have g2 : decide ((q : Int) + 1 ≤ (cs.length : Int)) = true := decide_eq_true h2
            clear fq HB eB
            go_wp2_with fail
            rw [E3.out]
            go_quiet (fail)
            go_wp2_with fail
            go_ret
            refine ⟨?_, by first | exact HBW.out | exact HBW.out.drew | exact below_drewN HBW.out _⟩
            show Ending.returned (.bool _) = Ending.returned (.bool _)
            congr 2
            have ev := EV.out
            rw [Bool.eq_iff_iff]
            simp only [beq_iff_eq, decide_eq_true_eq, Bool.true_and, Bool.and_eq_true]
            constructor
            · rintro rfl; exact ⟨⟨h1, h2⟩, ev⟩
            · rintro ⟨_, h⟩; exact ev.symm.trans h
          · have g1 : decide (a0 ≥ 1) = true := by simpa using h1
            have g2 : decide (a0 ≤ (cs.length : Int)) = false := decide_eq_false h2
            have g3 : ¬ a0 ≤ (cs.length : Int) := h2
            go_wp2_with fail
            rw [E3.out]
            go_quiet (fail)
            go_wp2_with fail
            go_ret
            refine ⟨?_, by first | exact HBW.out | exact HBW.out.drew | exact below_drewN HBW.out _⟩
            rw [decide_eq_true h1, g2]
            rfl
        · have g1 : decide (a0 ≥ 1) = false := by simpa using h1
          have g3 : a0 < 1 := by omega
          go_wp2_with fail
          rw [E3.out]
          go_quiet (fail)
          go_wp2_with fail
          go_ret
          refine ⟨?_, by first | exact HBW.out | exact HBW.out.drew | exact below_drewN HBW.out _⟩
          rw [show decide (1 ≤ a0) = false from decide_eq_false (by omega)]
          rfl
end Go.Proofs.YtpejolnjnkcolaaDoor

/-
  Whether a propagator holds: the document's own answer.
-/
namespace Go.Proofs.YtpejolnjnkcolaaDoor
open Go Go.RowKit Go.Ev

def aOps : OpO where
  bin _ _ _ _ := none
  len _ _ := none
  un o v := match o, v with
    | .neg, .chan (some 2) => some (.chan (some 7))
    | .neg, .chan (some 3) => some (.chan (some 8))
    | _, _ => none
def aOrc (q1 q2 : Bool) : Orc := fun k args _ => match args with
  | [.chan (some 0), .chan (some 1), .chan (some 7)] => if Nat.beq k 47 then some (.bool q1) else none
  | [.chan (some 1), .chan (some 0), .chan (some 8)] => if Nat.beq k 47 then some (.bool q2) else none
  | _ => none
theorem aOps_ok {w0 : W0} {d e : Int} (hm : 8 < w0.m) (e2 : w0.env 2 = .int .i64 d) (e3 : w0.env 3 = .int .i64 e) (e7 : w0.env 7 = .int .i64 (-d)) (e8 : w0.env 8 = .int .i64 (-e)) (rd : -1000000 ≤ d ∧ d ≤ 1000000) (re : -1000000 ≤ e ∧ e ≤ 1000000) : OpOk Tryd.prog w0 aOps := by
  refine ⟨fun b t v u r h => (nomatch h), fun t v r h => (nomatch h), fun o v r h φ sy v' hv w1 => ?_⟩
  simp only [aOps] at h
  split at h
  · cases h
    rw [one_sym sy hv, e2]
    exact ⟨_, op_neg (by omega) (by omega), by have := VR.sym sy (r := 7) (by omega); rw [e7] at this; exact this⟩
  · cases h
    rw [one_sym sy hv, e3]
    exact ⟨_, op_neg (by omega) (by omega), by have := VR.sym sy (r := 8) (by omega); rw [e8] at this; exact this⟩
  · cases h
theorem aOrc_ok {w0 : W0} {a0 a1 d e : Int} (e0 : w0.env 0 = .int .i64 a0) (e1 : w0.env 1 = .int .i64 a1) (e7 : w0.env 7 = .int .i64 (-d)) (e8 : w0.env 8 = .int .i64 (-e)) (r0 : -9223372036854775808 ≤ a0 ∧ a0 ≤ 9223372036854775807) (r1 : -9223372036854775808 ≤ a1 ∧ a1 ≤ 9223372036854775807) (rd : -1000000 ≤ d ∧ d ≤ 1000000) (re : -1000000 ≤ e ∧ e ≤ 1000000) :
    OrcOk Tryd.prog w0 (aOrc (decide (a0 - a1 ≤ -d)) (decide (a1 - a0 ≤ -e))) := by
  refine orc_plain fun k args st v h => ?_
  unfold aOrc at h
  split at h
  · split at h
    · rename_i hk
      obtain rfl := Nat.eq_of_beq_eq_true hk
      cases h
      refine ⟨rfl, fun φ args' sy hl w1 => ?_⟩
      obtain ⟨x, y, z, rfl, hx, hy, hz⟩ := lr3 hl
      rw [one_sym sy hx, one_sym sy hy, one_sym sy hz, e0, e1, e7]
      exact ⟨fun w => enters Tryd.func47 (by decide +kernel) (by kernel_rfl) _ w, atMost_any a0 a1 (-d) w1 r0 r1 (by omega)⟩
    · cases h
  · split at h
    · rename_i hk
      obtain rfl := Nat.eq_of_beq_eq_true hk
      cases h
      refine ⟨rfl, fun φ args' sy hl w1 => ?_⟩
      obtain ⟨x, y, z, rfl, hx, hy, hz⟩ := lr3 hl
      rw [one_sym sy hx, one_sym sy hy, one_sym sy hz, e0, e1, e8]
      exact ⟨fun w => enters Tryd.func47 (by decide +kernel) (by kernel_rfl) _ w, atMost_any a1 a0 (-e) w1 r1 r0 (by omega)⟩
    · cases h
  · cases h

set_option maxRecDepth 100000 in
set_option maxHeartbeats 8000000 in
theorem ho_apart (x : ByteArray) (vs cs us : List Int) (n : Int) (A B D : Option Addr) (c1 c2 c3 : Nat) (w : World) (hx : x.toList = [97, 112, 97, 114, 116]) (ha : Ints w A vs) (hb : Ints w B cs) (hd : Ints w D us) (hcc : cs.length ≤ c2) (hn : -9223372036854775808 ≤ n ∧ n ≤ 9223372036854775807) :
    Calls Tryd.prog 26 #[.agg #[.string x, .slice A vs.length c1, .slice B cs.length c2, .int .i64 n], .slice D us.length c3] w fun e w' => e = .returned (.bool (vpCore 2 2 2 false true false vs cs n us.length && (decide (nthI (pick vs us) 0 - nthI (pick vs us) 1 ≤ -nthI cs 0) || decide (nthI (pick vs us) 1 - nthI (pick vs us) 0 ≤ -nthI cs 1)))) ∧ Below w.heap.size w w' := by
  have VP := Lib.hid (fun w' (h : Below w.heap.size w w') => vp_apart x vs cs n us.length A B c1 c2 w' hx (ha.over h) (hb.over h) (by have := hd.1; omega))
  have HD := Lib.hid hd
  have HA0 := Lib.hid ha
  have HB0 := Lib.hid hb
  obtain ⟨ha1, ha2, ha3⟩ := ha
  obtain ⟨hb1, hb2, hb3⟩ := hb
  obtain ⟨hd1, hd2, hd3⟩ := hd
  have k_sum : (x.toList == [115, 117, 109]) = false := by rw [hx]; rfl
  have k_most : (x.toList == [109, 111, 115, 116]) = false := by rw [hx]; rfl
  have k_distinct : (x.toList == [100, 105, 115, 116, 105, 110, 99, 116]) = false := by rw [hx]; rfl
  have k_unlike : (x.toList == [117, 110, 108, 105, 107, 101]) = false := by rw [hx]; rfl
  have k_product : (x.toList == [112, 114, 111, 100, 117, 99, 116]) = false := by rw [hx]; rfl
  have k_max : (x.toList == [109, 97, 120]) = false := by rw [hx]; rfl
  have k_reify : (x.toList == [114, 101, 105, 102, 121]) = false := by rw [hx]; rfl
  have k_element : (x.toList == [101, 108, 101, 109, 101, 110, 116]) = false := by rw [hx]; rfl
  have k_apart : (x.toList == [97, 112, 97, 114, 116]) = true := by rw [hx]; rfl
  clear hx
  generalize hV : vpCore 2 2 2 false true false vs cs n us.length = V at VP
  generalize hW : (decide (nthI (pick vs us) 0 - nthI (pick vs us) 1 ≤ -nthI cs 0) || decide (nthI (pick vs us) 1 - nthI (pick vs us) 0 ≤ -nthI cs 1)) = W
  have VF := Lib.hid (fun e : V = true => vp_facts (hV.trans e))
  have HW := Lib.hid hW
  have HA := Lib.hid ha3
  have HB := Lib.hid hb3
  have HU := Lib.hid hd3
  have HU2 := Lib.hid hd2
  clear hV hW ha2 hb2 hd2 ha3 hb3 hd3
  have B0 := Lib.hid (show ∀ o, Below w.heap.size w (w.alloc o) from fun o => (Below.refl _ _).alloc (Nat.le_refl _) _)
  obtain ⟨i0, hi, hz0, hz1, hz2⟩ := info_parts infoI
  go_enter Tryd.func26, Tryd.ntmps26
  go_wp2_with fail
  refine (VP.out _ (B0.out _)).mono ?_
  rintro e w1 ⟨rfl, hb⟩
  have hbx : w1.heap[w.heap.size]? = some (.cells #[.string x, .slice A vs.length c1, .slice B cs.length c2, .int .i64 n] 37 (0, 0)) := (hb.block w.heap.size (by simp)).trans (by show (w.heap.push _)[w.heap.size]? = _; simp)
  have hbW := (B0.out (.cells #[.string x, .slice A vs.length c1, .slice B cs.length c2, .int .i64 n] 37)).trans (hb.mono (by simp))
  have HB1 := Lib.hid hbW
  have HX1 := Lib.hid hbx
  have hs1 := lt_of_block hbx
  clear hb hbW hbx VP
  cases V with
  | false =>
    go_wp2_with fail
    go_ret
    exact ⟨rfl, HB1.out⟩
  | true =>
    obtain ⟨⟨t1, t2, t3, t4, t5, t6⟩, vr, cr, nr⟩ := VF.out rfl
    have T4 := Lib.hid t4
    have VR := Lib.hid vr
    have CR := Lib.hid cr
    have NR := Lib.hid nr
    clear t4 vr cr nr VF
    go_wp2_with fail
    go_loopw [5, 6] (fun l i wr => ∃ (k : Nat) (G : Option Addr) (cap : Nat), k ≤ vs.length ∧ i = .int .i64 k ∧ l = .slice G k cap ∧ wr.ownsRow (w.heap.size + 1) 3 1 (.slice G k cap) k (((pick vs us).take k).map (Value.int .i64)) ∧ Below w.heap.size w wr ∧ wr.heap[w.heap.size]? = some (.cells #[.string x, .slice A vs.length c1, .slice B cs.length c2, .int .i64 n] 37 (0, 0))) (fun _ i _ => vs.length - (intOf i).toNat)
    case atStart => exact ⟨0, none, 0, Nat.zero_le _, rfl, rfl, by simpa using World.ownsRow_nil _ _ _ _, HB1.out, HX1.out⟩
    case round =>
      obtain ⟨k, G, cap, hk, rfl, rfl, hown, hbw, hbx⟩ := hrel
      have hsz := lt_of_block hbx
      have d0 : wr.cell? ⟨w.heap.size, 0, none⟩ = some (.string x) := by simp [World.cell?, hbx]
      have d1 : wr.cell? ⟨w.heap.size, 1, none⟩ = some (.slice A vs.length c1) := by simp [World.cell?, hbx]
      have d2 : wr.cell? ⟨w.heap.size, 2, none⟩ = some (.slice B cs.length c2) := by simp [World.cell?, hbx]
      have d3 : wr.cell? ⟨w.heap.size, 3, none⟩ = some (.int .i64 n) := by simp [World.cell?, hbx]
      have HO := Lib.hid hown
      have HBW := Lib.hid hbw
      have HBX := Lib.hid hbx
      clear hown hbw hbx HB1 HX1
      by_cases hlt : k < vs.length
      · obtain ⟨b1, o1, eA, hb1', f1⟩ := HA.out (by omega)
        rw [eA] at d1
        have EA := Lib.hid eA
        clear eA
        have x1 := (HBW.out.cell (p := ⟨b1, o1 + k, none⟩) hb1').trans (f1 k hlt)
        have hv := VR.out k hlt
        have hvlt : (vs[k]).toNat < us.length := by omega
        obtain ⟨b2, o2, rfl, hb2', f2⟩ := HU.out (by omega)
        have x2 := (HBW.out.cell (p := ⟨b2, o2 + (vs[k]).toNat, none⟩) hb2').trans (f2 _ hvlt)
        have PK := Lib.hid (show (pick vs us).take (k + 1) = (pick vs us).take k ++ [us[(vs[k]).toNat]] by
          rw [List.take_succ_eq_append_getElem (by simp [pick]; omega)]
          simp [pick, nthI, List.getD_eq_getElem?_getD, List.getElem?_eq_getElem hvlt])
        generalize us[(vs[k]).toNat] = u at *
        generalize vs[k] = v at *
        obtain ⟨q, rfl⟩ : ∃ q : Nat, v = q := ⟨v.toNat, by omega⟩
        simp only [Int.toNat_natCast] at x2 hvlt
        clear f1 f2 HA HU VR HW
        have z3 : (k : Int) < (vs.length : Int) := by omega
        have z4 : (0 : Int) ≤ (k : Int) := by omega
        have z5 : (q : Int) < (us.length : Int) := by omega
        have z6 : (0 : Int) ≤ (q : Int) := by omega
        have hlen : (((pick vs us).take k).map (Value.int .i64)).length = k := by simp [pick]; omega
        go_wp2_with (at_builtin; refine wpList_append_own _ rfl _ _ 23 rfl (w.heap.size + 1) 3 i0 (.int .i64 0) 1 8 Tryd.underlying23 hi hz0 hz1 hz2 rfl (by decide) _ _ _ rfl (HO.out.alloc _) ⟨wr.heap.size, 0, none⟩ 1 1 [.int .i64 u] rfl rfl ?c1 ?c2 ?c3 ?c4 ?c5 ?_)
        case c1 =>
          intro j z hj
          match j, hj with
          | 0, hj => simp at hj; subst hj; simp [Addr.add]
        case c2 => intro z hz; simp at hz; subst hz; rfl
        case c3 => unfold maxLen; omega
        case c4 => omega
        case c5 => simp; omega
        intro v' w2 hown' hgrow _
        obtain ⟨A', cap', hv'⟩ : ∃ A' cap', v' = .slice A' (k + 1) cap' := by
          rcases hown'.2 with ⟨_, hz⟩ | ⟨g, cap, cur, hv, _⟩
          · omega
          · exact ⟨some ⟨g, 0, none⟩, cap, by rw [hv]⟩
        have hb2 : Below w.heap.size w w2 := (HBW.out.alloc HBW.out.size _).grown hgrow (by simp; omega) (fun j hj => by have := (HO.out.lt j hj).1; omega)
        have hbx2 : w2.heap[w.heap.size]? = some (.cells #[.string x, .slice A vs.length c1, .slice B cs.length c2, .int .i64 n] 37 (0, 0)) := by
          have hb3 : Below (w.heap.size + 1) wr w2 := ((Below.refl _ wr).alloc (by omega) _).grown hgrow (by simp; omega) (fun j hj => (HO.out.lt j hj).1)
          exact (hb3.block _ (by omega)).trans HBX.out
        have OW := Lib.hid (show w2.ownsRow (w.heap.size + 1) 3 1 (.slice A' (k + 1) cap') (k + 1) (((pick vs us).take (k + 1)).map (Value.int .i64)) by rw [← hv', PK.out]; simpa using hown')
        have VV := Lib.hid hv'
        have HB2 := Lib.hid hb2
        have HX2 := Lib.hid hbx2
        clear hown' hgrow hv' hb2 hbx2
        go_wp2_with fail
        go_roundw
        case rel => exact ⟨k + 1, A', cap', by omega, by go_num, VV.out, OW.out, HB2.out, HX2.out⟩
        case measure => simp [intOf]; omega
      · obtain rfl : k = vs.length := by omega
        have hlt' : decide ((vs.length : Int) < (vs.length : Int)) = false := by simp
        obtain ⟨a0, a1, eP⟩ := two (l := pick vs us) (by have := T4.out; simp [pick]; omega)
        have rng := pick_range (vs := vs) HU2.out
        have ho := HO.out
        have hw := HW.out
        rw [List.take_of_length_le (by simp [pick])] at ho
        have e3 : vs.length = 2 := by have := T4.out; omega
        rw [eP] at rng ho hw
        have r0 := rng a0 (by simp)
        have r1 := rng a1 (by simp)
        simp only [nthI, List.getD_cons_zero, List.getD_cons_succ] at hw
        have E3 := Lib.hid e3
        obtain ⟨g, rfl, hcap, hgb, hgs, hrow⟩ := own_at ho (by omega)
        rw [e3] at hcap
        obtain ⟨d, e, eC⟩ := two (l := cs) (by omega)
        have c0 := CR.out d (by rw [eC]; simp)
        have c1' := CR.out e (by rw [eC]; simp)
        obtain ⟨bq, oq, eB, hbq, fq⟩ := HB.out (by rw [eC]; simp)
        have hcs : ∀ i (hi : i < [d, e].length), wr.cell? ⟨bq, oq + i, none⟩ = some ([Value.int .i64 d, Value.int .i64 e][i]'(by simpa using hi)) := fun i hi => by
          rw [(HBW.out.cell (p := ⟨bq, oq + i, none⟩) hbq), fq i (by rw [eC]; exact hi)]
          subst eC
          match i, hi with
          | 0, _ => rfl
          | 1, _ => rfl
        have HQ := Lib.hid (rw_of_cells (w := wr) (B := bq) (off := oq) (vs := [.int .i64 d, .int .i64 e]) (by simp) hcs)
        clear hcs fq
        have HBX2 := Lib.hid (show wr.heap[w.heap.size]? = some (.cells #[.string x, .slice A vs.length c1, .slice (some ⟨bq, oq, none⟩) 2 c2, .int .i64 n] 37 (0, 0)) by rw [HBX.out, eB, eC]; rfl)
        have hc22 : 2 ≤ c2 := by rw [eC] at hcc; simpa using hcc
        subst eC
        simp only [List.getD_cons_zero, List.getD_cons_succ] at hw
        have HRW := Lib.hid hrow
        subst hw
        clear hrow ho eP rng HW HO e3
        go_wp2_with fail
        rw [E3.out]
        refine reg_ok mixed (w0 := (iW wr [.int .i64 a0, .int .i64 a1, .int .i64 d, .int .i64 e, .string x, .slice A vs.length c1, .int .i64 n, .int .i64 (-d), .int .i64 (-e)] (by intro v hv; simp at hv; rcases hv with rfl | rfl | rfl | rfl | rfl | rfl | rfl | rfl | rfl <;> exact ⟨rfl, rfl⟩))) (lift_ok2 (aOps_ok (d := d) (e := e) (by show 8 < 9; decide) rfl rfl rfl rfl c0 c1') (aOrc_ok (a0 := a0) (a1 := a1) (d := d) (e := e) rfl rfl rfl rfl r0 r1 c0 c1')) (f := frOf 200 [(5, .slice (some ⟨9, 0, none⟩) 2 2), (2, .pointer (some ⟨10, 0, none⟩))]) (t := 4) (v := .bool ((decide (a0 - a1 ≤ -d) || decide (a1 - a0 ≤ -e)))) rfl ?_ (HR.rows _ [⟨g, 0, [.chan (some 0), .chan (some 1)], [.int .i64 a0, .int .i64 a1]⟩, ⟨w.heap.size, 0, [.chan (some 4), .chan (some 5), .slice (some ⟨11, 0, none⟩) 2 2, .chan (some 6)], [.string x, .slice A vs.length c1, .slice (some ⟨bq, oq, none⟩) 2 c2, .int .i64 n]⟩, ⟨bq, oq, [.chan (some 2), .chan (some 3)], [.int .i64 d, .int .i64 e]⟩] ?_) (frOf_ok rfl rfl ?_) ?_
        · generalize decide (a0 - a1 ≤ -d) = q1
          generalize decide (a1 - a0 ≤ -e) = q2
          cases q1 <;> cases q2 <;> kernel_rfl
        · have sy := rowsφ_sy (iW wr [.int .i64 a0, .int .i64 a1, .int .i64 d, .int .i64 e, .string x, .slice A vs.length c1, .int .i64 n, .int .i64 (-d), .int .i64 (-e)] (by intro v hv; simp at hv; rcases hv with rfl | rfl | rfl | rfl | rfl | rfl | rfl | rfl | rfl <;> exact ⟨rfl, rfl⟩)) [⟨g, 0, [.chan (some 0), .chan (some 1)], [.int .i64 a0, .int .i64 a1]⟩, ⟨w.heap.size, 0, [.chan (some 4), .chan (some 5), .slice (some ⟨11, 0, none⟩) 2 2, .chan (some 6)], [.string x, .slice A vs.length c1, .slice (some ⟨bq, oq, none⟩) 2 c2, .int .i64 n]⟩, ⟨bq, oq, [.chan (some 2), .chan (some 3)], [.int .i64 d, .int .i64 e]⟩]
          intro y hy
          simp only [List.mem_cons, List.not_mem_nil, or_false] at hy
          rcases hy with rfl | rfl | rfl
          · exact ⟨(LR.cons (sym_i sy (by simp)) (LR.cons (sym_i sy (by simp)) (LR.nil))), hgs, HRW.out⟩
          · exact ⟨LR.cons (sym_i sy (by simp)) (LR.cons (sym_i sy (by simp)) (LR.cons (row_slice (w0 := (iW wr [.int .i64 a0, .int .i64 a1, .int .i64 d, .int .i64 e, .string x, .slice A vs.length c1, .int .i64 n, .int .i64 (-d), .int .i64 (-e)] (by intro v hv; simp at hv; rcases hv with rfl | rfl | rfl | rfl | rfl | rfl | rfl | rfl | rfl <;> exact ⟨rfl, rfl⟩))) (rs := [⟨g, 0, [.chan (some 0), .chan (some 1)], [.int .i64 a0, .int .i64 a1]⟩, ⟨w.heap.size, 0, [.chan (some 4), .chan (some 5), .slice (some ⟨11, 0, none⟩) 2 2, .chan (some 6)], [.string x, .slice A vs.length c1, .slice (some ⟨bq, oq, none⟩) 2 c2, .int .i64 n]⟩, ⟨bq, oq, [.chan (some 2), .chan (some 3)], [.int .i64 d, .int .i64 e]⟩]) (i := 2) rfl hc22 (by obtain ⟨_, arr, ee, fz, q1, q2, q3⟩ := HQ.out; have e9 : rowS wr ⟨bq, oq, [.chan (some 2), .chan (some 3)], [.int .i64 d, .int .i64 e]⟩ = arr.size := (by simp [rowS, q1]); show oq + 0 ≤ rowS wr _; rw [e9]; simp at q3; omega)) (LR.cons (sym_i sy (by simp)) LR.nil))), hsz, _, _, _, HBX2.out, by simp, by simp⟩
          · exact ⟨(LR.cons (sym_i sy (by simp)) (LR.cons (sym_i sy (by simp)) (LR.nil))), HQ.out.1, HQ.out.2⟩
        · have sy := rowsφ_sy (iW wr [.int .i64 a0, .int .i64 a1, .int .i64 d, .int .i64 e, .string x, .slice A vs.length c1, .int .i64 n, .int .i64 (-d), .int .i64 (-e)] (by intro v hv; simp at hv; rcases hv with rfl | rfl | rfl | rfl | rfl | rfl | rfl | rfl | rfl <;> exact ⟨rfl, rfl⟩)) [⟨g, 0, [.chan (some 0), .chan (some 1)], [.int .i64 a0, .int .i64 a1]⟩, ⟨w.heap.size, 0, [.chan (some 4), .chan (some 5), .slice (some ⟨11, 0, none⟩) 2 2, .chan (some 6)], [.string x, .slice A vs.length c1, .slice (some ⟨bq, oq, none⟩) 2 c2, .int .i64 n]⟩, ⟨bq, oq, [.chan (some 2), .chan (some 3)], [.int .i64 d, .int .i64 e]⟩]
          intro y hy
          simp only [List.mem_cons, List.not_mem_nil, or_false] at hy
          rcases hy with rfl | rfl
          · exact row_slice (w0 := (iW wr [.int .i64 a0, .int .i64 a1, .int .i64 d, .int .i64 e, .string x, .slice A vs.length c1, .int .i64 n, .int .i64 (-d), .int .i64 (-e)] (by intro v hv; simp at hv; rcases hv with rfl | rfl | rfl | rfl | rfl | rfl | rfl | rfl | rfl <;> exact ⟨rfl, rfl⟩))) (rs := [⟨g, 0, [.chan (some 0), .chan (some 1)], [.int .i64 a0, .int .i64 a1]⟩, ⟨w.heap.size, 0, [.chan (some 4), .chan (some 5), .slice (some ⟨11, 0, none⟩) 2 2, .chan (some 6)], [.string x, .slice A vs.length c1, .slice (some ⟨bq, oq, none⟩) 2 c2, .int .i64 n]⟩, ⟨bq, oq, [.chan (some 2), .chan (some 3)], [.int .i64 d, .int .i64 e]⟩]) (i := 0) rfl hcap (Nat.zero_le _)
          · exact row_ptr (w0 := (iW wr [.int .i64 a0, .int .i64 a1, .int .i64 d, .int .i64 e, .string x, .slice A vs.length c1, .int .i64 n, .int .i64 (-d), .int .i64 (-e)] (by intro v hv; simp at hv; rcases hv with rfl | rfl | rfl | rfl | rfl | rfl | rfl | rfl | rfl <;> exact ⟨rfl, rfl⟩))) (rs := [⟨g, 0, [.chan (some 0), .chan (some 1)], [.int .i64 a0, .int .i64 a1]⟩, ⟨w.heap.size, 0, [.chan (some 4), .chan (some 5), .slice (some ⟨11, 0, none⟩) 2 2, .chan (some 6)], [.string x, .slice A vs.length c1, .slice (some ⟨bq, oq, none⟩) 2 c2, .int .i64 n]⟩, ⟨bq, oq, [.chan (some 2), .chan (some 3)], [.int .i64 d, .int .i64 e]⟩]) (i := 1) rfl 0
        · intro a' w' h1 h2 h3
          go_wp2_with fail
          exact bodyPost_ret (results_tmp rfl _ _ _) h2 ⟨by rw [h1, Bool.true_and], HBW.out.trans (h3.mono HBW.out.size)⟩
end Go.Proofs.YtpejolnjnkcolaaDoor
