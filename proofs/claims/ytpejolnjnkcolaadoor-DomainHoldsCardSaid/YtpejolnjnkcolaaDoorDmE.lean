/-
  Whether a propagator holds: the document's own answer.
-/
import Derived.Test.YtpejolnjnkcolaaDoorDmD
import Derived.Test.YtpejolnjnkcolaaDoorEvM8
namespace Go.Proofs.YtpejolnjnkcolaaDoor
open Go Go.RowKit Go.Ev
theorem infoI : (Tryd.prog.info? 3).map (fun i => (i.zero, i.size, i.bytes)) = some (some (.int .i64 0), 1, 8) := by kernel_rfl

def nthI (l : List Int) (i : Nat) : Int := l.getD i 0
/-- the values of the places -/
def pick (vs us : List Int) : List Int := vs.map fun v => nthI us v.toNat
theorem vp_facts {vars least most : Int} {nz ng named : Bool} {vs cs : List Int} {n N : Int} (h : vpCore vars least most nz ng named vs cs n N = true) :
    (N ≤ 40 ∧ 1 ≤ vars ∧ vars ≤ 40 ∧ (vs.length : Int) = vars ∧ least ≤ cs.length ∧ (cs.length : Int) ≤ most) ∧ (∀ j (hj : j < vs.length), 0 ≤ vs[j] ∧ vs[j] < N) ∧ (∀ c ∈ cs, -1000000 ≤ c ∧ c ≤ 1000000) ∧ (named = true → -1000000 ≤ n ∧ n ≤ 1000000) := by
  unfold vpCore at h
  simp only [Bool.and_eq_true, decide_eq_true_eq, List.all_eq_true, Bool.or_eq_true, Bool.not_eq_true'] at h
  obtain ⟨⟨⟨h1, h2⟩, h3⟩, h4⟩ := h
  refine ⟨h1, fun j hj => h2 _ (List.getElem_mem hj), fun c hc => (h3 c hc).1.1, fun e => ?_⟩
  subst e
  simpa using h4

theorem mixed : Tryd.prog.follows .mixedOrders = true := by kernel_rfl
theorem tab_nil : Tab.ok Tryd.prog [] := fun k fn h => by cases h
theorem xtab_nil : XTab.ok Tryd.prog [] := fun k fn h => by cases h
noncomputable def lift (orc : Orc) : CallF := evCall Tryd.prog noOpO orc [] [] 1 1
theorem lift_ok {w0 : W0} {orc : Orc} (h : OrcOk Tryd.prog w0 orc) : CallOk Tryd.prog noOpO w0 (lift orc) := evCall_ok mixed tab_nil xtab_nil (noOpO_ok _ _) h 1 1
theorem enters {f : Nat} {fn : Func} (hf : Tryd.prog.funcs[f]? = some fn) (hn : (fn.name == "runtime.NumGoroutine") = false) (hb : fn.body.isNone = false) : ∀ args w, (callFunc f args).run Tryd.prog w = .ok (.enter f args) w := fun args w => by
  have hn' : ¬ fn.name = "runtime.NumGoroutine" := fun e => by rw [e] at hn; exact absurd hn (by decide)
  have hb' : ¬ fn.body = none := fun e => by rw [e] at hb; cases hb
  simp [callFunc, hf, hn', hb']
theorem lr3 {φ : Pm} {x y z : Value} {l : List Value} (h : LR φ [x, y, z] l) : ∃ x' y' z', l = [x', y', z'] ∧ VR φ x x' ∧ VR φ y y' ∧ VR φ z z' := by
  obtain ⟨a, b, c, rfl⟩ : ∃ a b c, l = [a, b, c] := by
    have hl := h.1
    rcases l with _ | ⟨a, _ | ⟨b, _ | ⟨c, _ | ⟨d, l⟩⟩⟩⟩ <;> simp at hl
    exact ⟨a, b, c, rfl⟩
  obtain ⟨h1, h⟩ := h.cons_inv
  obtain ⟨h2, h⟩ := h.cons_inv
  exact ⟨a, b, c, rfl, h1, h2, h.cons_inv.1⟩
def iEnv (l : List Value) : Nat → Value := fun r => l.getD r (.int .i64 0)
def oneAll (l : List Value) : Bool := l.all fun v => v.oneCell'
def iW (w : World) (l : List Value) (h : ∀ v ∈ l, v.oneCell' = true ∧ v.cells = #[v]) : W0 := ⟨w, iEnv l, l.length, fun r hr => by
  unfold iEnv
  rw [List.getD_eq_getElem?_getD, List.getElem?_eq_getElem hr]
  exact h _ (List.getElem_mem hr)⟩
theorem sym_i {φ : Pm} {w : World} {l : List Value} {h : ∀ v ∈ l, v.oneCell' = true ∧ v.cells = #[v]} (sy : Sy (iW w l h) φ) {r : Nat} (hr : r < l.length) : VR φ (.chan (some r)) (l.getD r (.int .i64 0)) := VR.sym sy hr
theorem own_at {w : World} {base : Nat} {T : TypeId} {G : Option Addr} {n cap : Nat} {xs : List Value} (h : w.ownsRow base T 1 (.slice G n cap) n xs) (hn : 0 < n) :
    ∃ g, G = some ⟨g, 0, none⟩ ∧ n ≤ cap ∧ base ≤ g ∧ g < w.heap.size ∧ ∃ arr e fz, w.heap[g]? = some (.cells arr e fz) ∧ (arr.toList.drop 0).take xs.length = xs ∧ 0 + xs.length ≤ arr.size := by
  rcases h.2 with ⟨_, h0⟩ | ⟨g, c, cur, hv, hb, hg, hnc, _, hcs, ht⟩
  · omega
  · injection hv with e1 e2 e3
    subst e1 e3
    have hl := h.1
    refine ⟨g, rfl, hnc, hb, lt_of_block hg, cur, _, _, hg, ?_, ?_⟩
    · rw [List.drop_zero, hl]; exact ht
    · omega
theorem nth_range {us : List Int} (h : ∀ x ∈ us, -9223372036854775808 ≤ x ∧ x ≤ 9223372036854775807) (i : Nat) : -9223372036854775808 ≤ nthI us i ∧ nthI us i ≤ 9223372036854775807 := by
  unfold nthI
  rw [List.getD_eq_getElem?_getD]
  cases e : us[i]? with
  | none => simp
  | some x => exact h x (List.mem_of_getElem? e)
theorem pick_range {vs us : List Int} (h : ∀ x ∈ us, -9223372036854775808 ≤ x ∧ x ≤ 9223372036854775807) : ∀ x ∈ pick vs us, -9223372036854775808 ≤ x ∧ x ≤ 9223372036854775807 := by
  intro x hx
  unfold pick at hx
  obtain ⟨v, _, rfl⟩ := List.mem_map.1 hx
  exact nth_range h _
theorem three {l : List Int} (h : l.length = 3) : ∃ a b c, l = [a, b, c] := by
  rcases l with _ | ⟨a, _ | ⟨b, _ | ⟨c, _ | ⟨d, l⟩⟩⟩⟩ <;> simp at h
  exact ⟨a, b, c, rfl⟩
theorem two {l : List Int} (h : l.length = 2) : ∃ a b, l = [a, b] := by
  rcases l with _ | ⟨a, _ | ⟨b, _ | ⟨c, l⟩⟩⟩ <;> simp at h
  exact ⟨a, b, rfl⟩

noncomputable def lift2 (oo : OpO) (orc : Orc) : CallF := evCall Tryd.prog oo orc [] [] 1 1
theorem lift_ok2 {w0 : W0} {oo : OpO} {orc : Orc} (ho : OpOk Tryd.prog w0 oo) (h : OrcOk Tryd.prog w0 orc) : CallOk Tryd.prog oo w0 (lift2 oo orc) := evCall_ok mixed tab_nil xtab_nil ho h 1 1
end Go.Proofs.YtpejolnjnkcolaaDoor
