/-
  The law FamilyTexts: its arguments, read; the wrap that hands on the world's shape and what is listed.
-/
import Derived.Test.YtcbjkclajkjicaaGreatDoorTxV
import Derived.Deep.MidRow
import Derived.Deep.Slices
import Derived.ChangeOld
import Derived.OpenShut
import Derived.ChangeSlices
import Derived.SizedLaws
import Derived.LaidLaws
namespace Go.Proofs.YtcbjkclajkjicaaGreatDoor
open Go Go.RowKit Go.Ev Go.Deep Go.ChangeShapes Go.WideShapes

/-- integers that lie, however many -/
def IntsF (w : World) (A : Option Addr) (xs : List Int) : Prop := (∀ x ∈ xs, -9223372036854775808 ≤ x ∧ x ≤ 9223372036854775807) ∧
  (0 < xs.length → ∃ b off, A = some ⟨b, off, none⟩ ∧ b < w.heap.size ∧ ∀ i (h : i < xs.length), w.cell? ⟨b, off + i, none⟩ = some (.int .i64 xs[i]))
theorem IntsF.small {w : World} {A : Option Addr} {xs : List Int} (h : IntsF w A xs) (hl : xs.length ≤ 1000000) : Ints w A xs := ⟨hl, h.1, h.2⟩
theorem FamilyTexts_all (lo hi : List Int) (mn mx : Int) (A B : Option Addr) (c1 c2 : Nat) (s : ByteArray) (w : World) (ha : IntsF w A lo) (hb : IntsF w B hi) (hT : TabIn w) (hL : LibIn w) :
    Calls Tryz.prog 3 #[.agg #[.slice A lo.length c1, .slice B hi.length c2, .int .i64 mn, .int .i64 mx], .string s] w fun e w' => e = .returned (.bool true) ∧ Below w.heap.size w w' := by
  refine FamilyTexts_any lo hi mn mx A B c1 c2 s w (fun h => ha.small ?_) (fun h => hb.small ?_) hT hL
  · unfold lightB1 at h
    simp only [Bool.and_eq_true, decide_eq_true_eq] at h
    omega
  · unfold lightB1 at h
    simp only [Bool.and_eq_true, decide_eq_true_eq] at h
    omega
/-- the wrap: the contract may lean on the world's shape and on what the row lists -/
theorem handed_shaped_laid {H : Type} {enc : TypeId × Value → H} {a : Assume} {C : Checked} {os : Os} {f : FuncId} {fn : Func} {s : ChangeSpec} {conds : List PathCond} {apart fresh handsOn again : Bool} {X : World → Array Value → Prop}
    (own : ownKnob C.prog.godebug = none) (started : os.Started) (noInit : C.prog.inits.idxOf? f = none) (hfn : C.prog.funcs[f]? = some fn)
    (hX : ∀ (w w' : World) (args : Array Value), w.heap = w'.heap → X w args → X w' args)
    (witness : ∃ (w : World) (tape : Tape) (i : Input), w.os = os ∧ (w.forCall tape i).Shaped C.prog ∧ i.vars = [] ∧ Input.okWide C.prog (w.forCall tape i) .any w.heap.size f i ∧
      ((s.pre enc C.prog fn conds apart (w.forCall tape i).memory i.args ∧ X (w.forCall tape i).memory i.args) ∧ sizedMet enc C.prog fn (OpenSpec.ofChange s) apart (w.forCall tape i).memory i.args) ∧ a.holds C.prog (lone (Frame.enter C.prog f i.args .normal) [] (w.forCall tape i)))
    (contract : ∀ (W : World) (base : Nat) (args : Array Value) (ds gs : List (DataW H)) (before : List MemPlace),
      (∀ (j : Nat) t v, fn.params[j]? = some t → args[j]? = some v → Value.okWide C.prog W .any base t v) →
      DataW.Whole enc C.prog fn.params.toList s.vars apart W args.toList ds gs before → W.ShapedOpen C.prog → X W args →
      (DataW.weightsEach C.prog (fn.params.toList ++ s.plain.varTypes C.prog) (ds ++ gs)).all (· ≤ reachBytes) = true →
      Calls C.prog f args W fun e W' => ∃ v, e = .returned v ∧ s.post enc C.prog fn apart fresh handsOn again W args v W') :
    ReturnsInHanded a C os f .any (fun w args => (s.pre enc C.prog fn conds apart w args ∧ X w args) ∧ sizedMet enc C.prog fn (OpenSpec.ofChange s) apart w args) (s.post enc C.prog fn apart fresh handsOn again) := by
  refine returnsInHanded_of_calls own started noInit witness fun w tape i _ shape _ fits met _ => ?_
  obtain ⟨_, _, _, g, hg, _, _, _, _, each⟩ := fits
  obtain rfl : g = fn := Option.some.inj (hg.symm.trans hfn)
  obtain ⟨⟨⟨ds, gs, places, whole, _⟩, listed⟩, sizes⟩ := met
  refine (contract _ _ _ ds gs places each (DataW.Whole.of_heap (w' := w.forCall tape i) (by rfl) whole) shape (hX _ _ _ (by rfl) listed) (sizes.weights whole)).mono ?_
  rintro e W' ⟨v, rfl, hv⟩
  exact ChangeSpec.post_blind hv

section
variable {H : Type} {enc : TypeId × Value → H} {w : World} {base : Nat} {spare : Nat → Bool} {held : Bool}
theorem wf_range {n : Int} (h : (Lit.int .i64 n).wf = true) : -9223372036854775808 ≤ n ∧ n ≤ 9223372036854775807 := by
  simp [Lit.wf, IntKind.min, IntKind.max, IntKind.signed, IntKind.bits] at h
  exact h
set_option maxRecDepth 100000 in
theorem ints_open {fuel : Nat} {cs : List Value} {x : DataW H × List MemPlace} (h : DataW.trod enc Tryz.prog w base spare held fuel 22 cs = some x) :
    ∃ (A : Option Addr) (l c : Nat) (xs : List Int), cs = [.slice A l c] ∧ xs.length = l ∧ (A = none → c = 0) ∧ IntsF w A xs := by
  rcases open_ints Tryz.underlying22 Tryz.underlying3 (by kernel_rfl) h with ⟨rfl, _⟩ | ⟨a, len, cap, zs, rfl, _, hl, hm, hz, _, hcell, hwz⟩
  · exact ⟨none, 0, 0, [], rfl, rfl, fun _ => rfl, fun x hx => by simp at hx, fun h => by simp at h⟩
  · have hzl : len ≤ zs.length := by rw [hz]; split <;> omega
    refine ⟨some a, len, cap, zs.take len, rfl, by simp; omega, fun h => (by cases h), fun x hx => wf_range (hwz x (List.mem_of_mem_take hx)), fun hp => ?_⟩
    have hp : 0 < len := by simp at hp; omega
    obtain ⟨b, off, rfl, hc⟩ := ints_at hcell (by omega)
    have c0 := hc 0 (by omega)
    refine ⟨b, off, rfl, ?_, fun i hi => ?_⟩
    · rcases Nat.lt_or_ge b w.heap.size with h' | h'
      · exact h'
      · simp [World.cell?, Array.getElem?_eq_none h'] at c0
    · have hi' : i < len := by simp at hi; omega
      rw [hc i (by omega)]
      simp [List.getD_eq_getElem?_getD, List.getElem?_eq_getElem (show i < zs.length by omega)]
set_option maxRecDepth 100000 in
theorem fam_open {fuel : Nat} {cs : List Value} {x : DataW H × List MemPlace} (h : DataW.trod enc Tryz.prog w base spare held fuel 24 cs = some x) :
    ∃ (A : Option Addr) (c1 : Nat) (lo : List Int) (B : Option Addr) (c2 : Nat) (hi : List Int) (mn mx : Int), cs = [.slice A lo.length c1, .slice B hi.length c2, .int .i64 mn, .int .i64 mx] ∧ IntsF w A lo ∧ IntsF w B hi := by
  obtain ⟨xs, k, _, _, hcl, hxl, hf⟩ := DataW.trod_struct Tryz.underlying24 h
  have hcl : cs.length = 4 := hcl.trans (by kernel_rfl)
  match cs, hcl with
  | [v0, v1, v2, v3], _ =>
    match xs, hxl with
    | [y0, y1, y2, y3], _ =>
      have ci1 : Tryz.prog.cellsOf 3 = 1 := by kernel_rfl
      have cl1 : Tryz.prog.cellsOf 22 = 1 := by kernel_rfl
      have g0 := hf 0 _ rfl
      have g1 := hf 1 _ rfl
      have g2 := hf 2 _ rfl
      have g3 := hf 3 _ rfl
      change DataW.trod enc Tryz.prog w base spare held k 22 (List.take (Tryz.prog.cellsOf 22) [v0, v1, v2, v3]) = some y0 at g0
      change DataW.trod enc Tryz.prog w base spare held k 22 (List.take (Tryz.prog.cellsOf 22) [v1, v2, v3]) = some y1 at g1
      change DataW.trod enc Tryz.prog w base spare held k 3 (List.take (Tryz.prog.cellsOf 3) [v2, v3]) = some y2 at g2
      change DataW.trod enc Tryz.prog w base spare held k 3 (List.take (Tryz.prog.cellsOf 3) [v3]) = some y3 at g3
      rw [cl1] at g0 g1
      rw [ci1] at g2 g3
      obtain ⟨A, l1, c1, lo, e0, rfl, _, h0⟩ := ints_open g0
      obtain ⟨B, l2, c2, hi, e1, rfl, _, h1⟩ := ints_open g1
      obtain ⟨mn, e2, _, _⟩ := DataW.trod_int Tryz.underlying3 g2
      obtain ⟨mx, e3, _, _⟩ := DataW.trod_int Tryz.underlying3 g3
      simp only [List.take_succ_cons, List.take_zero, List.cons.injEq, and_true] at e0 e1 e2 e3
      exact ⟨A, c1, lo, B, c2, hi, mn, mx, by rw [e0, e1, e2, e3], h0, h1⟩
end
end Go.Proofs.YtcbjkclajkjicaaGreatDoor
