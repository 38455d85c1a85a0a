/-
  The document's list of a domain's numbers.
-/
import Derived.Test.YtlhfbhkfmkcnjaaDoorDsB
namespace Go.Proofs.YtlhfbhkfmkcnjaaDoor
open Go.RowKit

def runT (a : Int) (t : Nat) : List Int := (List.range t).map fun (s : Nat) => a + (s : Int)
theorem runT_succ (a : Int) (t : Nat) : runT a (t + 1) = runT a t ++ [a + (t : Int)] := by simp [runT, List.range_succ]
theorem runT_len (a : Int) (t : Nat) : (runT a t).length = t := by simp [runT]
theorem vals_succ {d : List (Int × Int)} {k : Nat} (h : k < d.length) : vals (d.take (k + 1)) = vals (d.take k) ++ runT d[k].1 (d[k].2 + 1 - d[k].1).toNat := by
  unfold vals
  rw [List.take_succ_eq_append_getElem h, List.flatMap_append]
  simp [run, runT]
theorem vals_len {d : List (Int × Int)} {k : Nat} (h : k < d.length) : (vals (d.take k)).length + (d[k].2 + 1 - d[k].1).toNat ≤ (vals d).length := by
  have e : vals d = vals (d.take (k + 1)) ++ vals (d.drop (k + 1)) := by
    unfold vals
    rw [← List.flatMap_append, List.take_append_drop]
  rw [e, vals_succ h]
  simp [runT]
def valsV (d : List (Int × Int)) : List Int := if vd 0 d = true then vals d else []

set_option maxHeartbeats 4000000 in
theorem Values_r_any (d : List (Int × Int)) (A : Option Addr) (c : Nat) (w : World) (ha : Pairs w A d) :
    Calls Tryd.prog 20 #[.slice A d.length c] w fun e w' => ∃ G cap, e = .returned (.slice G (valsV d).length cap) ∧ w'.ownsRow w.heap.size 3 1 (.slice G (valsV d).length cap) (valsV d).length ((valsV d).map (Value.int .i64)) ∧ Below w.heap.size w w' := by
  have va := Valid_r_any d A c w ha
  obtain ⟨i0, hi, hz0, hz1, hz2⟩ := info_parts infoI
  obtain ⟨ha1, ha2, ha3⟩ := ha
  have HA := Lib.hid ha3
  have VB := Lib.hid (@vd_all 0 d (by omega))
  have VS := Lib.hid (@vd_sz 0 d (by omega))
  unfold valsV
  obtain ⟨R, hR⟩ : ∃ R, vd 0 d = R := ⟨_, rfl⟩
  rw [hR] at va VB VS ⊢
  clear ha2 ha3 hR
  have VA := Lib.hid va
  clear va
  cases R with
  | false =>
    rw [if_neg (by decide)]
    go_enter Tryd.func20, Tryd.ntmps20
    go_wp2_with fail
    refine VA.out.mono ?_
    rintro e w1 ⟨rfl, hb⟩
    have HB := Lib.hid hb
    clear hb
    go_wp2_with fail
    go_ret
    exact ⟨none, 0, rfl, by simpa using World.ownsRow_nil _ _ _ _, HB.out⟩
  | true =>
    obtain ⟨hs1, hs2, hs3⟩ := VS.out rfl
    have vb := VB.out rfl
    have VV := Lib.hid vb
    rw [if_pos rfl]
    have hlen : (vals d).length ≤ 1002 := by omega
    have VN := Lib.hid (show ∀ k (h : k < d.length), (vals (d.take k)).length + (d[k].2 + 1 - d[k].1).toNat ≤ (vals d).length from fun k h => vals_len h)
    have VT := Lib.hid (show ∀ k (h : k < d.length), vals (d.take (k + 1)) = vals (d.take k) ++ runT d[k].1 (d[k].2 + 1 - d[k].1).toNat from fun k h => vals_succ h)
    clear vb VB VS hs3 hs1 hs2
    obtain ⟨L, hL⟩ : ∃ L, vals d = L := ⟨_, rfl⟩
    rw [hL] at hlen VN ⊢
    have HL := Lib.hid hL
    clear hL
    go_enter Tryd.func20, Tryd.ntmps20
    go_wp2_with fail
    refine VA.out.mono ?_
    rintro e w1 ⟨rfl, hb⟩
    have HB := Lib.hid hb
    clear hb VA
    go_wp2_with fail
    go_loopw [3, 4, 5] (fun l i _ wr => ∃ (k j : Nat) (G : Option Addr) (cap : Nat), k ≤ d.length ∧ i = .int .i64 k ∧ j = (vals (d.take k)).length ∧ l = .slice G j cap ∧ wr.ownsRow w.heap.size 3 1 (.slice G j cap) j ((vals (d.take k)).map (Value.int .i64)) ∧ Below w.heap.size w wr) (fun _ i _ _ => d.length - (intOf i).toNat)
    case atStart => exact ⟨0, 0, none, 0, Nat.zero_le _, rfl, by simp [vals], rfl, by simpa [vals] using World.ownsRow_nil _ _ _ _, HB.out⟩
    case round =>
      obtain ⟨k, j, G, cap, hk, rfl, hj, rfl, hown, hbw⟩ := hrel
      have HJ := Lib.hid hj
      have HO := Lib.hid hown
      have HBW := Lib.hid hbw
      clear hj hown hbw
      by_cases hlt : k < d.length
      · obtain ⟨b1, o1, rfl, hb1', g1⟩ := HA.out (by omega)
        have x1 := (HBW.out.cell (p := ⟨b1, o1 + k * 2, none⟩) hb1').trans (g1 k hlt).1
        have G1 := Lib.hid (g1 k hlt).2
        have hv := VV.out _ (List.getElem_mem hlt)
        have hn := VN.out k hlt
        have HT := Lib.hid (VT.out k hlt)
        clear g1
        generalize d[k] = p at *
        obtain ⟨a, b⟩ := p
        simp only at x1 hv hn HT G1
        rw [← HJ.out] at hn
        have z3 : (k : Int) < (d.length : Int) := by omega
        have z4 : (0 : Int) ≤ (k : Int) := by omega
        clear HA VV VN VT
        go_wp2_with fail
        go_loopw [3, 5] (fun l i wx => ∃ (t : Nat) (G : Option Addr) (cap : Nat), (t : Int) ≤ b + 1 - a ∧ i = .int .i64 (a + (t : Int)) ∧ l = .slice G (j + t) cap ∧ wx.ownsRow w.heap.size 3 1 (.slice G (j + t) cap) (j + t) ((vals (d.take k) ++ runT a t).map (Value.int .i64)) ∧ Below w.heap.size w wx) (fun _ i _ => (b + 1 - intOf i).toNat)
        case atStart => exact ⟨0, G, cap, by omega, by simp, by simp, by simpa [runT] using HO.out, HBW.out⟩
        case round =>
          clear HO HBW
          obtain ⟨t, G, cap, ht, rfl, rfl, hown, hbw⟩ := hrel
          have x2 := (hbw.cell (p := ⟨b1, o1 + k * 2 + 1, none⟩) hb1').trans G1.out
          have HO := Lib.hid hown
          have HBW := Lib.hid hbw
          clear hown hbw
          have z6 : IntKind.i64.wrap (a + (t : Int) + 1) = a + (t : Int) + 1 := IntWalk.i64_in _ (by omega)
          by_cases hlt2 : (t : Int) < b + 1 - a
          · have z5 : a + (t : Int) ≤ b := by omega
            have hln : (((vals (d.take k)) ++ runT a t).map (Value.int .i64)).length = j + t := by simp [HJ.out, runT]
            go_wp2_with (at_builtin; refine wpList_append_own _ rfl _ _ 23 rfl w.heap.size 3 i0 (.int .i64 0) 1 8 Tryd.underlying23 hi hz0 hz1 hz2 rfl (by decide) _ _ _ rfl (HO.out.alloc _) ⟨wr.heap.size, 0, none⟩ 1 1 [.int .i64 (a + (t : Int))] rfl rfl ?c1 ?c2 ?c3 ?c4 ?c5 ?_)
            case c1 =>
              intro j z hj
              match j, hj with
              | 0, hj => simp at hj; subst hj; simp [Addr.add]
            case c2 => intro z hz; simp at hz; subst hz; rfl
            case c3 => unfold maxLen; omega
            case c4 => omega
            case c5 => have := HBW.out.size; simp; omega
            intro v' w2 hown' hgrow _
            obtain ⟨A', cap', hv'⟩ : ∃ A' cap', v' = .slice A' (j + t + 1) cap' := by
              rcases hown'.2 with ⟨_, hz⟩ | ⟨g, cap, cur, hv, _⟩
              · omega
              · exact ⟨some ⟨g, 0, none⟩, cap, by rw [hv]⟩
            have hb2 : Below w.heap.size w w2 := (HBW.out.alloc HBW.out.size _).grown hgrow (by have := HBW.out.size; simp; omega) (fun j hj => (HO.out.lt j hj).1)
            have OW := Lib.hid (show w2.ownsRow w.heap.size 3 1 (.slice A' (j + (t + 1)) cap') (j + (t + 1)) ((vals (d.take k) ++ runT a (t + 1)).map (Value.int .i64)) by rw [← Nat.add_assoc, ← hv', runT_succ, ← List.append_assoc, List.map_append]; simpa using hown')
            have VV := Lib.hid hv'
            have HB2 := Lib.hid hb2
            clear hown' hgrow hv' hb2
            go_wp2_with fail
            go_roundw
            case rel => exact ⟨t + 1, A', cap', by omega, by rw [show a + (t : Int) + 1 = a + ((t + 1 : Nat) : Int) by omega], VV.out, OW.out, HB2.out⟩
            case measure => simp [intOf]; omega
          · have z5 : ¬ a + (t : Int) ≤ b := by omega
            have Z7 := Lib.hid (show t = (b + 1 - a).toNat by omega)
            go_wp2_with fail
            go_roundw
            case rel => exact ⟨k + 1, j + t, G, cap, by omega, by go_num, by rw [HT.out, HJ.out, Z7.out]; simp [runT], rfl, by rw [HT.out, ← Z7.out]; exact HO.out, HBW.out⟩
            case measure => simp [intOf]; omega
      · obtain rfl : k = d.length := by omega
        have hj := HJ.out
        have ho := HO.out
        rw [List.take_of_length_le (by omega), HL.out] at hj ho
        subst hj
        have HO := Lib.hid ho
        clear HA VV VN VT ho
        go_wp2_with fail
        go_ret
        exact ⟨G, cap, rfl, HO.out, HBW.out⟩
end Go.Proofs.YtlhfbhkfmkcnjaaDoor
