/-
  The document's Fix: rows of families in sets, as they are built and copied; the normal form of any.
-/
import Derived.Maps.AppendAt
import Derived.Laws.AppendOwnNone
import Derived.Test.YthakhdbakmlooaaDoorFnK
import Derived.Test.YthakhdbakmlooaaDoorKbN
import Derived.Test.YthakhdbakmlooaaDoorFnN
namespace Go.Proofs.YthakhdbakmlooaaDoor
set_option linter.unusedSimpArgs false
set_option linter.unusedVariables false
open Go Go.RowKit Go.Shelf Go.Ev

def nrmG (b : BdV) (bad : Bool) : Bool := bad || !okB b
def nrmB (b : BdV) (bad : Bool) : BdV := if nrmG b bad = true then zB else normB b
def dAgg (b : BdV) (bad : Bool) : Value := .agg #[.int .u64 (b.lo : Int), .int .u64 (b.hi : Int), .int .i64 b.mn, .int .i64 b.mx, .bool bad]
theorem normD_any (b : BdV) (bad : Bool) (w : World) (hL : b.lo < 18446744073709551616) (hH : b.hi < 18446744073709551616) :
    Calls Tryd.prog 33 #[dAgg b bad] w fun e w' => e = .returned (dAgg (nrmB b bad) (nrmG b bad)) ∧ Below w.heap.size w w' := by
  unfold nrmB nrmG dAgg
  cases bad with
  | true =>
    refine (rnormal_bad b.lo b.hi b.mn b.mx w hL hH).mono fun e w' h => ⟨h.1.trans ?_, h.2⟩
    rw [Bool.true_or, if_pos rfl]
    rfl
  | false =>
    refine (rnormal_any b.lo b.hi b.mn b.mx w hL hH).mono fun e w' h => ⟨h.1.trans ?_, h.2⟩
    rw [Bool.false_or]
    cases hk : okB b with
    | true =>
      have hk2 : okN b.lo b.hi b.mn b.mx = true := hk
      rw [if_pos hk2, Bool.not_true, if_neg (by decide)]
      rfl
    | false =>
      have hk2 : ¬ okN b.lo b.hi b.mn b.mx = true := by
        intro h2
        have : okB b = true := h2
        rw [hk] at this; cases this
      rw [if_neg hk2, Bool.not_false, if_pos rfl]
      rfl
/-- what the document begins with -/
def DF (fs : List FamV) (i : Nat) : BdV := match fs[i]? with
  | some f => nrmB (bdOf f) false
  | none => zB
def DG (fs : List FamV) (i : Nat) : Bool := match fs[i]? with
  | some f => nrmG (bdOf f) false
  | none => false
theorem df_ok {fs : List FamV} (h : okAll fs = true) : DF fs = firstF fs ∧ DG fs = fun _ => false := by
  have one : ∀ i f, fs[i]? = some f → okB (bdOf f) = true := fun i f hf => List.all_eq_true.1 h f (List.mem_of_getElem? hf)
  refine ⟨funext fun i => ?_, funext fun i => ?_⟩
  · unfold DF firstF
    cases hf : fs[i]? with
    | none => rfl
    | some f => dsimp only; unfold nrmB nrmG; rw [one i f hf]; rfl
  · unfold DG
    cases hf : fs[i]? with
    | none => rfl
    | some f => dsimp only; unfold nrmG; rw [one i f hf]; rfl
theorem df_bad {fs : List FamV} (h : okAll fs = false) : ∃ i, i < fs.length ∧ DG fs i = true := by
  have : ¬ ∀ f ∈ fs, okB (bdOf f) = true := fun hh => by
    have : okAll fs = true := List.all_eq_true.2 hh
    rw [h] at this; cases this
  have : ∃ f ∈ fs, okB (bdOf f) = false := by
    refine Classical.byContradiction fun hn => this fun f hf => ?_
    cases hk : okB (bdOf f) with
    | true => rfl
    | false => exact absurd ⟨f, hf, hk⟩ hn
  obtain ⟨f, hf, hk⟩ := this
  obtain ⟨i, hi, rfl⟩ := List.mem_iff_getElem.1 hf
  refine ⟨i, hi, ?_⟩
  unfold DG
  rw [List.getElem?_eq_getElem hi]
  dsimp only
  unfold nrmG
  rw [hk]; rfl
theorem bits_df {fs : List FamV} (h : fs.all FamV.ok = true) : Bits (DF fs) := fun i => by
  unfold DF
  split
  · next f hf =>
    have v := fam_parts (List.all_eq_true.1 h f (List.mem_of_getElem? hf))
    unfold nrmB
    split
    · exact ⟨by decide, by decide⟩
    · exact ⟨nlo_lt (setN_lt v.1) (setN_lt v.2.1), nhi_lt (setN_lt v.1) (setN_lt v.2.1)⟩
  · exact ⟨by decide, by decide⟩
/-- a row's cells -/
def flatD (F : Nat → BdV) (G : Nat → Bool) (n : Nat) : List Value := (List.range (n * 5)).map fun q => dCell (F (q / 5)) (G (q / 5)) (q % 5)
theorem flatD_length (F : Nat → BdV) (G : Nat → Bool) (n : Nat) : (flatD F G n).length = n * 5 := by simp [flatD]
theorem flatD_succ (F : Nat → BdV) (G : Nat → Bool) (n : Nat) : flatD F G (n + 1) = flatD F G n ++ [dCell (F n) (G n) 0, dCell (F n) (G n) 1, dCell (F n) (G n) 2, dCell (F n) (G n) 3, dCell (F n) (G n) 4] := by
  unfold flatD
  rw [show (n + 1) * 5 = n * 5 + 1 + 1 + 1 + 1 + 1 by omega, List.range_succ, List.range_succ, List.range_succ, List.range_succ, List.range_succ]
  simp only [List.map_append, List.map_cons, List.map_nil, List.append_assoc, List.singleton_append]
  rw [show (n * 5) / 5 = n by omega, show (n * 5) % 5 = 0 by omega, show (n * 5 + 1) / 5 = n by omega, show (n * 5 + 1) % 5 = 1 by omega, show (n * 5 + 1 + 1) / 5 = n by omega, show (n * 5 + 1 + 1) % 5 = 2 by omega, show (n * 5 + 1 + 1 + 1) / 5 = n by omega, show (n * 5 + 1 + 1 + 1) % 5 = 3 by omega, show (n * 5 + 1 + 1 + 1 + 1) / 5 = n by omega, show (n * 5 + 1 + 1 + 1 + 1) % 5 = 4 by omega]
  rfl
theorem flatD_get {F : Nat → BdV} {G : Nat → Bool} {n j : Nat} {u : Value} (h : (flatD F G n)[j]? = some u) : j < n * 5 ∧ u = dCell (F (j / 5)) (G (j / 5)) (j % 5) := by
  obtain ⟨hj, e⟩ := List.getElem?_eq_some_iff.1 h
  rw [flatD_length] at hj
  refine ⟨hj, ?_⟩
  rw [← e]
  simp [flatD]
theorem dCell_one (b : BdV) (bad : Bool) (j : Nat) : (dCell b bad j).oneCell' = true := by
  unfold dCell
  split <;> rfl
/-- n families as a slice, behind a block's number -/
def NX (w : World) (base : Nat) (v : Value) (n : Nat) (F : Nat → BdV) (G : Nat → Bool) : Prop :=
  ∃ A cap, v = .slice A n cap ∧ (A = none → n = 0 ∧ cap = 0) ∧ (0 < n → ∃ g, base ≤ g ∧ A = some ⟨g, 0, none⟩ ∧ DRow w g n F G)
theorem nx_of_owns {w : World} {base n : Nat} {v : Value} {F : Nat → BdV} {G : Nat → Bool} (h : w.ownsRow base 58 5 v n (flatD F G n)) : NX w base v n F G := by
  obtain ⟨h1, h2⟩ := h
  rcases h2 with ⟨h0, hz⟩ | ⟨g, cap, cur, hv, hb, hg, hc, hm, hs, ht⟩
  · exact ⟨none, 0, by rw [h0, hz], fun _ => ⟨hz, rfl⟩, fun hp => by omega⟩
  · refine ⟨_, cap, hv, (fun h => by cases h), fun _ => ⟨g, hb, rfl, cur.size, fun i => cur[i]?.getD undef, by omega, ⟨cur, hg, rfl, fun i hi => by dsimp only; rw [Array.getElem?_eq_getElem hi]; rfl⟩, fun i hi => ?_⟩⟩
    have hi2 : i < cur.size := by omega
    have e : (flatD F G n)[i]? = some (dCell (F (i / 5)) (G (i / 5)) (i % 5)) := by
      rw [List.getElem?_eq_getElem (by rw [flatD_length]; exact hi)]
      simp [flatD]
    rw [← ht, List.getElem?_take, if_pos (by omega)] at e
    dsimp only
    rw [Array.getElem?_toList] at e
    rw [e]; rfl
theorem NX.over {w w' : World} {base n : Nat} {v : Value} {F : Nat → BdV} {G : Nat → Bool} (h : NX w base v n F G) (k : ∀ g, base ≤ g → g < w.heap.size → w'.heap[g]? = w.heap[g]?) : NX w' base v n F G := by
  obtain ⟨A, cap, hv, hz, hp⟩ := h
  refine ⟨A, cap, hv, hz, fun h0 => ?_⟩
  obtain ⟨g, hb, hA, hr⟩ := hp h0
  exact ⟨g, hb, hA, hr.at (k g hb hr.lt)⟩
theorem NX.below {w w' : World} {base n : Nat} {v : Value} {F : Nat → BdV} {G : Nat → Bool} (h : NX w base v n F G) (k : Below w.heap.size w w') : NX w' base v n F G := h.over fun g _ hg => k.block g hg
theorem DRow.congr {w : World} {g n : Nat} {F F' : Nat → BdV} {G G' : Nat → Bool} (h : DRow w g n F G) (hF : ∀ i, i < n → F i = F' i) (hG : ∀ i, i < n → G i = G' i) : DRow w g n F' G' := by
  obtain ⟨M, C, hM, hr, hc⟩ := h
  refine ⟨M, C, hM, hr, fun i hi => ?_⟩
  rw [hc i hi, hF _ (by omega), hG _ (by omega)]
theorem NX.congr {w : World} {base n : Nat} {v : Value} {F F' : Nat → BdV} {G G' : Nat → Bool} (h : NX w base v n F G) (hF : ∀ i, i < n → F i = F' i) (hG : ∀ i, i < n → G i = G' i) : NX w base v n F' G' := by
  obtain ⟨A, cap, hv, hz, hp⟩ := h
  refine ⟨A, cap, hv, hz, fun h0 => ?_⟩
  obtain ⟨g, hb, hA, hr⟩ := hp h0
  exact ⟨g, hb, hA, hr.congr hF hG⟩
theorem NX.mono {w : World} {base base' n : Nat} {v : Value} {F : Nat → BdV} {G : Nat → Bool} (h : NX w base v n F G) (hb : base' ≤ base) : NX w base' v n F G := by
  obtain ⟨A, cap, hv, hz, hp⟩ := h
  refine ⟨A, cap, hv, hz, fun h0 => ?_⟩
  obtain ⟨g, hb', hA, hr⟩ := hp h0
  exact ⟨g, Nat.le_trans hb hb', hA, hr⟩
theorem infoM : (Tryd.prog.info? 58).map (fun i => (i.zero, i.size, i.bytes)) = some (some (.agg #[.int .u64 0, .int .u64 0, .int .i64 0, .int .i64 0, .bool false]), 5, 40) := by kernel_rfl
set_option maxRecDepth 100000 in
/-- families behind a row of one's own -/
theorem wpList_append_dfam {w : World} {ops : Array Oper} {rest : List Oper} {o : Oper} {a : Act} {Q : Exit → Act → World → Prop} (hgd : o.guard = none) (s x : Operand)
    (ho : o.op = .call { callee := .builtin .append, args := #[s, x], argTypes := #[83, 83] })
    (base : Nat) (v : Value) (n : Nat) (xs : List Value) (hs : a.eval s = v) (hown : w.ownsRow base 58 5 v n xs) (A : Option Addr) (m c : Nat) (news : List Value)
    (hx : a.eval x = .slice A m c) (hl : news.length = m * 5) (hz : A = none → m = 0 ∧ c = 0) (hnews : ∀ ad, A = some ad → ∀ j u, news[j]? = some u → w.cell? (ad.add j) = some u) (h1 : ∀ u ∈ news, u.oneCell' = true) (h63 : n + m ≤ 1000000) (hbase : base ≤ w.heap.size)
    (h : ∀ v' w', w'.ownsRow base 58 5 v' (n + m) (xs ++ news) → w.grownBy w' v.ownBlock → wpList Tryd.prog ops Q rest (a.put o.dst v') w') :
    wpList Tryd.prog ops Q (o :: rest) a w := by
  obtain ⟨i0, hi, hz0, hz1, hz2⟩ := info_parts infoM
  cases A with
  | none =>
    obtain ⟨rfl, rfl⟩ := hz rfl
    obtain rfl : news = [] := List.eq_nil_of_length_eq_zero (by rw [hl])
    refine wpList_append_own_none hgd s x 83 ho base 58 i0 5 Tryd.underlying83 hi v n xs hs hown hx ?_
    exact h v w (by simpa using hown) ⟨rfl, rfl, rfl, Nat.le_refl _, fun _ _ _ => rfl⟩
  | some ad =>
    refine wpList_append_own_at _ hgd s x 83 ho base 58 i0 _ 5 40 Tryd.underlying83 hi hz0 hz1 hz2 rfl (by decide) v n xs hs hown ad m c news hx hl (hnews ad rfl) h1 (by unfold maxLen; omega) (by omega) hbase ?_
    intro v' w' hown' hgrow _ _
    exact h v' w' hown' hgrow
theorem cells5_new (w : World) (a b c d e : Value) (t : TypeId) : ∀ j u, [a, b, c, d, e][j]? = some u → (w.alloc (.cells #[a, b, c, d, e] t)).cell? ((⟨w.heap.size, 0, none⟩ : Addr).add j) = some u := by
  intro j u hj
  match j, hj with
  | 0, hj => simp at hj; subst hj; simp [Addr.add]
  | 1, hj => simp at hj; subst hj; simp [Addr.add]
  | 2, hj => simp at hj; subst hj; simp [Addr.add]
  | 3, hj => simp at hj; subst hj; simp [Addr.add]
  | 4, hj => simp at hj; subst hj; simp [Addr.add]
theorem NX.news {w : World} {base n : Nat} {v : Value} {F : Nat → BdV} {G : Nat → Bool} {A : Option Addr} {cap : Nat} (h : NX w base v n F G) (hv : v = .slice A n cap) : (A = none → n = 0 ∧ cap = 0) ∧ ∀ ad, A = some ad → ∀ j u, (flatD F G n)[j]? = some u → w.cell? (ad.add j) = some u := by
  obtain ⟨A', cap', hv', hz, hp⟩ := h
  rw [hv] at hv'
  simp only [Value.slice.injEq, true_and] at hv'
  obtain ⟨rfl, rfl⟩ := hv'
  refine ⟨hz, fun ad had j u hj => ?_⟩
  obtain ⟨hj, rfl⟩ := flatD_get hj
  obtain ⟨g, hb, hA, hr⟩ := hp (by omega)
  rw [hA] at had
  cases had
  have := hr.cell (x := j / 5) (by omega) (j % 5) (Nat.mod_lt _ (by decide))
  rw [show j / 5 * 5 + j % 5 = j by omega] at this
  have e : (⟨g, 0, none⟩ : Addr).add j = ⟨g, j, none⟩ := by
    unfold Addr.add
    split
    · next h => subst h; rfl
    · simp
  rw [e]
  exact this
/-- a family's cells read off -/
def rdD (w : World) (g i : Nat) : BdV := ⟨(intAt w g (i * 5)).toNat, (intAt w g (i * 5 + 1)).toNat, intAt w g (i * 5 + 2), intAt w g (i * 5 + 3)⟩
def mD (w : World) (v : Value) (n : Nat) : Nat := match v with
  | .slice (some a) _ _ => sumM (rdD w a.block) n
  | _ => 0
theorem DRow.read {w : World} {g n : Nat} {F : Nat → BdV} {G : Nat → Bool} (h : DRow w g n F G) {i : Nat} (hi : i < n) : rdD w g i = F i := by
  have c0 := h.cell hi 0 (by decide)
  have c1 := h.cell hi 1 (by decide)
  have c2 := h.cell hi 2 (by decide)
  have c3 := h.cell hi 3 (by decide)
  rw [Nat.add_zero] at c0
  unfold rdD intAt
  rw [c0, c1, c2, c3]
  simp [dCell, intOf]
theorem NX.sum {w : World} {base n : Nat} {v : Value} {F : Nat → BdV} {G : Nat → Bool} (h : NX w base v n F G) (hn : 0 < n) : mD w v n = sumM F n := by
  obtain ⟨A, cap, hv, hz, hp⟩ := h
  obtain ⟨g, hb, hA, hr⟩ := hp hn
  rw [hv, hA]
  exact sum_read n fun i hi => hr.read hi
end Go.Proofs.YthakhdbakmlooaaDoor
