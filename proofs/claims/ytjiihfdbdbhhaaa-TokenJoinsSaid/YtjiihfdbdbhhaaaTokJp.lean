/-
  The law on two sources with a line's end between them: the walk.
-/
import Derived.Test.YtjiihfdbdbhhaaaTokJo
import Derived.Laws.AppendOwnNone
namespace Go.Proofs.Ytjiihfdbdbhhaaa
open Go.RowKit T

theorem _root_.Go.World.grownBy.andThen' {a b c : World} {row : Option Nat} (h : a.grownBy b row) (k : b.grownBy c row) : a.grownBy c row :=
  ⟨k.os.trans h.os, k.tape.trans h.tape, k.output.trans h.output, Nat.le_trans h.size k.size, fun i hi hne => (k.block i (Nat.lt_of_lt_of_le hi h.size) hne).trans (h.block i hi hne)⟩
/-- an operation whose guard lets it by, as one without a guard -/
theorem wpList_wanted {P : Program} {ops : Array Oper} {Q : Exit → Act → World → Prop} {a : Act} {w : World} {rest : List Oper} {d : Option Nat} {op : Op} {ty : TypeId} {ps : String} {af : Array Edge} {g : Option (Nat × Bool)}
    (hw : Region.wanted ⟨d, op, ty, ps, af, g⟩ (yielded ops a.tmps) = true) (h : wpList P ops Q (⟨d, op, ty, ps, af, none⟩ :: rest) a w) : wpList P ops Q (⟨d, op, ty, ps, af, g⟩ :: rest) a w := by
  unfold wpList at h ⊢
  rw [if_pos hw]
  rw [if_pos (by simp [Region.wanted])] at h
  exact h
theorem tkCells_one (ts : List Tk) : ∀ u ∈ tkCells ts, u.oneCell' = true := by
  intro u hu
  simp only [tkCells, List.mem_flatMap, List.mem_cons, List.not_mem_nil, or_false] at hu
  obtain ⟨t, _, rfl | rfl | rfl⟩ := hu <;> rfl
theorem grown_below' {w w' : World} (h : Below w.heap.size w w') (row : Option Nat) : w.grownBy w' row := ⟨h.os, h.tape, h.output, h.size, fun k hk _ => h.block k hk⟩

set_option maxHeartbeats 4000000 in
set_option maxRecDepth 100000 in
theorem TokenJoins_any (s t : ByteArray) (w : World) (hs : s.size ≤ 140737488351232) (ht : t.size ≤ 140737488351232) :
    Calls Try.prog 8 #[.string s, .string t] w fun e w' => e = .returned (.bool true) ∧ Below w.heap.size w w' := by
  by_cases h : s.size + t.size < 20000
  · have HN : (s ++ ({ data := #[10] } : ByteArray) ++ t).data.toList = s.data.toList ++ 10 :: t.data.toList := by simp
    have hNs : (s ++ ({ data := #[10] } : ByteArray) ++ t).size ≤ maxLen := by
      have e1 : ({ data := #[10] } : ByteArray).size = 1 := rfl
      rw [ByteArray.size_append, ByteArray.size_append, e1]; unfold maxLen; omega
    have T1 := fun wx => Tokens_any s wx (by unfold maxLen; omega)
    have T2 := fun wx => Tokens_any t wx (by unfold maxLen; omega)
    have T3 := fun wx => Tokens_any (s ++ ({ data := #[10] } : ByteArray) ++ t) wx hNs
    have B3 := fun wx => Bad_any (s ++ ({ data := #[10] } : ByteArray) ++ t) wx hNs
    have B2 := fun wx => Bad_any t wx (by unfold maxLen; omega)
    unfold TokensPost at T1 T2 T3
    obtain ⟨ts1, b1, e1, ts2, b2, e2, ts3, b3, e3, q1, q2, q3, hcase⟩ := joins_cases s.data.toList t.data.toList (by simpa using h)
    rw [HN, q3] at T3 B3
    rw [q1] at T1
    rw [q2] at T2 B2
    simp only [] at T1 T2 T3 B2 B3
    have T1 := Lib.hid T1
    have T2 := Lib.hid T2
    have T3 := Lib.hid T3
    have B2 := Lib.hid B2
    have B3 := Lib.hid B3
    have hsl : s.data.toList.length = s.size := by simp
    rw [hsl] at hcase
    have HC := Lib.hid hcase
    clear q1 q2 q3 HN hNs hcase hsl
    go_enter Try.func8, Try.ntmps8
    go_wp2_with fail
    refine (T1.out _).mono ?_
    rintro e w1 ⟨A1, c1, rfl, ho1, hb1⟩
    have HO1 := Lib.hid ho1
    clear ho1
    go_wp2_with fail
    refine (T2.out _).mono ?_
    rintro e w2 ⟨A2, c2, rfl, ho2, hb2⟩
    have HO2 := Lib.hid ho2
    clear ho2
    go_wp2_with fail
    refine (T3.out _).mono ?_
    rintro e w3 ⟨A3, c3, rfl, ho3, hb3⟩
    have HO3 := Lib.hid ho3
    clear ho3
    go_wp2_with fail
    refine (B3.out _).mono ?_
    rintro e w4 ⟨rfl, hb4⟩
    have hb12 := hb1.trans (hb2.mono hb1.size)
    have hb13 := hb12.trans (hb3.mono hb12.size)
    have hb14 := hb13.trans (hb4.mono hb13.size)
    rcases HC.out with rfl | ⟨rfl, rfl, rfl, rfl, hz1, hz2⟩ | ⟨rfl, rfl, rfl, hts, hlen, hat⟩
    · go_wp2_with fail
      refine (awake_any _).mono ?_
      rintro e w5 ⟨rfl, hb5⟩
      go_wp2_with fail
      go_ret
      exact ⟨rfl, hb14.trans (hb5.mono hb14.size)⟩
    · go_wp2_with fail
      refine (B2.out _).mono ?_
      rintro e w5 ⟨rfl, hb5⟩
      have hb15 := hb14.trans (hb5.mono hb14.size)
      go_wp2_with fail
      refine (awake_any _).mono ?_
      rintro e w6 ⟨rfl, hb6⟩
      go_wp2_with fail
      go_ret
      exact ⟨rfl, hb15.trans (hb6.mono hb15.size)⟩
    · have hl3 : ts3.length = ts1.length + ts2.length := by rw [hts]; simp
      have h1lt := (own_below (own_below (own_below HO1.out hb2) hb3) hb4)
      have h2lt := (own_below (own_below HO2.out hb3) hb4)
      have h3lt := own_below HO3.out hb4
      have k1 := HO1.out.lt
      have k2 := HO2.out.lt
      have k3 := HO3.out.lt
      have OA := Lib.hid h1lt
      have OB := Lib.hid h2lt
      have OC := Lib.hid h3lt
      have HT := Lib.hid hts
      have HAT := Lib.hid hat
      have hsz1 := hb1.size
      have hsz2 := hb2.size
      have hsz3 := hb3.size
      have hsz4 := hb4.size
      clear h1lt h2lt h3lt hts hat T1 T2 T3 B2 B3 HC
      go_wp2_with fail
      go_loopw [81] (fun i wr => ∃ k : Nat, k ≤ ts2.length ∧ i = .int .i64 k ∧ w4.grownBy wr (Value.slice A2 ts2.length c2).ownBlock ∧ wr.heap.size = w4.heap.size ∧ wr.ownsRow w1.heap.size 33 3 (.slice A2 ts2.length c2) ts2.length (tkCells (shK (s.size + 1) k ts2))) (fun i _ => ts2.length - (intOf i).toNat)
      case atStart => exact ⟨0, Nat.zero_le _, rfl, ⟨rfl, rfl, rfl, Nat.le_refl _, fun _ _ _ => rfl⟩, rfl, by simpa [shK] using OB.out⟩
      case round =>
        obtain ⟨k, hk, rfl, hgr, hsz, ho⟩ := hrel
        have HO := Lib.hid ho
        clear ho
        by_cases hlt : k < ts2.length
        · obtain ⟨g2, rfl⟩ : ∃ g2, A2 = some ⟨g2, 0, none⟩ := by
            rcases HO.out.2 with ⟨_, hz⟩ | ⟨g, cap, cur, hv, _⟩
            · omega
            · exact ⟨g, by injection hv⟩
          have hkl : k < (shK (s.size + 1) k ts2).length := by rw [shK_length]; exact hlt
          obtain ⟨ta, tb, tc⟩ := tk_cell (shK (s.size + 1) k ts2) k hkl
          rw [shK_get _ _ _ hlt] at tc
          have ST := Lib.hid (fun u => HO.out.stored (k * 3 + 2) u)
          have SS := Lib.hid (shK_step (s.size + 1) k ts2 hlt)
          have ca : wr.cell? ⟨g2, k * 3 + 2, none⟩ = some (.int .i64 (ts2[k].at_ : Int)) := by
            rw [HO.out.cellAt _ (by omega)]; exact tc
          have cf := HO.out.frozenAt (k * 3 + 2)
          have hav := HAT.out ts2[k] (List.getElem_mem _)
          clear ta tb tc hkl
          generalize ts2[k] = tk at *
          have z1 : (0 : Int) ≤ (k : Int) := by omega
          have z2 : (k : Int) < (ts2.length : Int) := by omega
          go_wp2_with fail
          go_roundw
          case rel =>
            have ST1 := ST.out (.int .i64 ((tk.at_ + (s.size + 1) : Nat) : Int))
            rw [SS.out] at ST1
            exact ⟨k + 1, by omega, by go_num, hgr.andThen' ST1.2, by simp [hsz], ST1.1⟩
          case measure => simp [intOf]; omega
        · have hkn : k = ts2.length := by omega
          subst hkn
          have hsh : shK (s.size + 1) ts2.length ts2 = ts2.map (shiftTk (s.size + 1)) := by simp [shK]
          have ho := HO.out
          rw [hsh] at ho
          have hne1 : (Value.slice A1 ts1.length c1).ownBlock = none ∨ (Value.slice A1 ts1.length c1).ownBlock ≠ (Value.slice A2 ts2.length c2).ownBlock := by
            rcases hA : (Value.slice A1 ts1.length c1).ownBlock with _ | g
            · exact .inl rfl
            · right; intro e
              have a := k1 g hA
              have b := k2 g e.symm
              omega
          have hne3 : (Value.slice A3 ts3.length c3).ownBlock = none ∨ (Value.slice A3 ts3.length c3).ownBlock ≠ (Value.slice A2 ts2.length c2).ownBlock := by
            rcases hA : (Value.slice A3 ts3.length c3).ownBlock with _ | g
            · exact .inl rfl
            · right; intro e
              have a := k3 g hA
              have b := k2 g e.symm
              omega
          have hne4 : (Value.slice A3 ts3.length c3).ownBlock = none ∨ (Value.slice A3 ts3.length c3).ownBlock ≠ (Value.slice A1 ts1.length c1).ownBlock := by
            rcases hA : (Value.slice A3 ts3.length c3).ownBlock with _ | g
            · exact .inl rfl
            · right; intro e
              have a := k3 g hA
              have b := k1 g e.symm
              omega
          have oa := OA.out.kept hgr hne1
          have oc := OC.out.kept hgr hne3
          have hbr : Below w.heap.size w wr := hb14.grown hgr (by omega) (fun g hg => by have := k2 g hg; omega)
          rcases ho.2 with ⟨hv, hz⟩ | ⟨g, cap, cur, hv, _⟩
          · obtain ⟨rfl, _, rfl⟩ : A2 = none ∧ ts2.length = 0 ∧ c2 = 0 := by injection hv with e1 e2 e3; exact ⟨e1, e2, e3⟩
            obtain rfl : ts2 = [] := List.eq_nil_of_length_eq_zero hz
            obtain ⟨i0, hi, hi0, hi1, hi2⟩ := info_parts tkInfo
            have RA : RdTk wr A1 ts3 := by
              have e : ts3 = ts1 := by rw [HT.out]; simp
              rw [e]; exact RdTk.of oa
            have RC : RdTk wr A3 ts3 := RdTk.of oc
            have hl3' : ts3.length = ts1.length := by rw [hl3]; simp
            clear oc ho hsh OA OB OC HO HO1 HO2 HO3 k1 k2 k3 hne1 hne3 hne4
            go_wp2_with (at_builtin; (refine wpList_wanted (by rfl) ?_; refine wpList_append_own_none rfl _ _ 23 rfl w.heap.size 33 i0 3 Try.underlying23 hi _ ts1.length (tkCells ts1) rfl oa rfl ?_))
            have SM := Lib.hid (Same_any A3 A1 c3 c1 ts1.length ts3 wr hl3' (by have := hlen; simp at this; omega) RC RA)
            clear RA RC
            refine SM.out.mono ?_
            rintro e w5 ⟨rfl, d, rfl⟩
            go_wp2_with fail
            refine (awake_any _).mono ?_
            rintro e w6 ⟨rfl, hb6⟩
            go_wp2_with fail
            go_ret
            exact ⟨rfl, (below_drewN hbr d).trans (hb6.mono (below_drewN hbr d).size)⟩
          · obtain rfl : A2 = some ⟨g, 0, none⟩ := by injection hv
            obtain ⟨i0, hi, hi0, hi1, hi2⟩ := info_parts tkInfo
            go_wp2_with (at_builtin; refine wpList_wanted (by rfl) ?_; refine wpList_append_own _ rfl _ _ 23 rfl w.heap.size 33 i0 (.agg #[.string ⟨#[]⟩, .string ⟨#[]⟩, .int .i64 0]) 3 40 Try.underlying23 hi hi0 hi1 hi2 rfl (by decide) _ _ _ rfl oa ⟨g, 0, none⟩ ts2.length c2 (tkCells (ts2.map (shiftTk (s.size + 1)))) rfl ?c1 ?c2 ?c3 ?c4 ?c5 ?c6 ?_)
            case c1 => rw [tkCells_len]; simp
            case c2 => exact ho.cells (g := g) rfl
            case c3 => exact tkCells_one _
            case c4 => unfold maxLen; omega
            case c5 => omega
            case c6 => omega
            intro v' w5 hown' hgrow _
            obtain ⟨A', cap', hv'⟩ : ∃ A' cap', v' = .slice A' (ts1.length + ts2.length) cap' := by
              rcases hown'.2 with ⟨hv, hz⟩ | ⟨g, cap, cur, hv, _⟩
              · exact ⟨none, 0, by rw [hv, hz]⟩
              · exact ⟨some ⟨g, 0, none⟩, cap, by rw [hv]⟩
            subst hv'
            have RA : RdTk w5 A' ts3 := by
              refine RdTk.of (B := w.heap.size) (cap := cap') ?_
              rw [hl3, HT.out, tkCells_app]; exact hown'
            have RC : RdTk w5 A3 ts3 := RdTk.of (oc.kept hgrow hne4)
            have hbE : Below w.heap.size w w5 := hbr.grown hgrow (by omega) (fun g hg => by have := k1 g hg; omega)
            clear hown' hgrow oa oc ho hsh OA OB OC HO HO1 HO2 HO3 k1 k2 k3 hne1 hne3 hne4
            have SM := Lib.hid (Same_any A3 A' c3 cap' (ts1.length + ts2.length) ts3 w5 hl3 (by omega) RC RA)
            clear RA RC
            go_wp2_with fail
            refine SM.out.mono ?_
            rintro e w7 ⟨rfl, d, rfl⟩
            go_wp2_with fail
            refine (awake_any _).mono ?_
            rintro e w6 ⟨rfl, hb6⟩
            go_wp2_with fail
            go_ret
            exact ⟨rfl, (below_drewN hbE d).trans (hb6.mono (below_drewN hbE d).size)⟩
  · go_enter Try.func8, Try.ntmps8
    go_wp2_with fail
    refine (awake_any _).mono ?_
    rintro e w' ⟨rfl, hb⟩
    go_wp2_with fail
    go_ret
    exact ⟨rfl, hb⟩
end Go.Proofs.Ytjiihfdbdbhhaaa
