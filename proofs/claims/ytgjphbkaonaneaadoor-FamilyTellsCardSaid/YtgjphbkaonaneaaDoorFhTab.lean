/-
  The functions that the closed runs enter.
-/
import Derived.Test.YtgjphbkaonaneaaDoorRows
import Derived.Test.YtgjphbkaonaneaaDoorEvM7
import Derived.Laws.Externs
import Derived.Lib.MakeNoZero
namespace Go.Proofs.YtgjphbkaonaneaaDoor
open Go Go.Ev Go.RowKit

theorem fa_enter {f : Nat} {fn : Func} (hf : Tryd.prog.funcs[f]? = some fn) (hn : (fn.name == "runtime.NumGoroutine") = false) (hb : fn.body.isNone = false) : Tryd.prog.funcs[f]? = some fn ∧ ∀ args w, (callFunc f args).run Tryd.prog w = .ok (.enter f args) w :=
  ⟨hf, fun args w => by
    have hn' : ¬ fn.name = "runtime.NumGoroutine" := fun e => by rw [e] at hn; exact absurd hn (by decide)
    have hb' : ¬ fn.body = none := fun e => by rw [e] at hb; cases hb
    simp [callFunc, hf, hn', hb']⟩
noncomputable def faTab : Tab := [(26, Tryd.f26),
  (29, Tryd.f29),
  (33, Tryd.f33),
  (34, Tryd.f34),
  (58, Tryd.f58),
  (59, Tryd.f59),
  (64, Tryd.f64),
  (65, Tryd.f65),
  (66, Tryd.f66),
  (69, Tryd.f69),
  (70, Tryd.f70),
  (71, Tryd.f71),
  (73, Tryd.f73),
  (74, Tryd.f74),
  (75, Tryd.f75),
  (76, Tryd.f76),
  (77, Tryd.f77),
  (78, Tryd.f78),
  (79, Tryd.f79),
  (82, Tryd.f82),
  (88, Tryd.f88),
  (102, Tryd.f102),
  (103, Tryd.f103),
  (106, Tryd.f106),
  (107, Tryd.f107),
  (108, Tryd.f108),
  (109, Tryd.f109),
  (110, Tryd.f110),
  (127, Tryd.f127),
  (128, Tryd.f128),
  (129, Tryd.f129),
  (130, Tryd.f130),
  (131, Tryd.f131),
  (132, Tryd.f132),
  (133, Tryd.f133),
  (135, Tryd.f135),
  (150, Tryd.f150),
  (151, Tryd.f151),
  (152, Tryd.f152),
  (157, Tryd.f157)]
theorem fatab_nil : Tab.ok Tryd.prog [] := fun k fn h => by cases h
theorem fatab_cons {f : Nat} {fn : Func} {t : Tab} (h : Tryd.prog.funcs[f]? = some fn ∧ ∀ args w, (callFunc f args).run Tryd.prog w = .ok (.enter f args) w) (ht : Tab.ok Tryd.prog t) : Tab.ok Tryd.prog ((f, fn) :: t) := fun k g hk => by
  simp only [Tab.find] at hk
  split at hk
  · rename_i e
    cases hk
    rw [← Nat.eq_of_beq_eq_true e]
    exact h
  · exact ht k g hk
theorem fatab_ok : faTab.ok Tryd.prog :=
  fatab_cons (fa_enter Tryd.func26 (by decide +kernel) (by kernel_rfl)) <|
  fatab_cons (fa_enter Tryd.func29 (by decide +kernel) (by kernel_rfl)) <|
  fatab_cons (fa_enter Tryd.func33 (by decide +kernel) (by kernel_rfl)) <|
  fatab_cons (fa_enter Tryd.func34 (by decide +kernel) (by kernel_rfl)) <|
  fatab_cons (fa_enter Tryd.func58 (by decide +kernel) (by kernel_rfl)) <|
  fatab_cons (fa_enter Tryd.func59 (by decide +kernel) (by kernel_rfl)) <|
  fatab_cons (fa_enter Tryd.func64 (by decide +kernel) (by kernel_rfl)) <|
  fatab_cons (fa_enter Tryd.func65 (by decide +kernel) (by kernel_rfl)) <|
  fatab_cons (fa_enter Tryd.func66 (by decide +kernel) (by kernel_rfl)) <|
  fatab_cons (fa_enter Tryd.func69 (by decide +kernel) (by kernel_rfl)) <|
  fatab_cons (fa_enter Tryd.func70 (by decide +kernel) (by kernel_rfl)) <|
  fatab_cons (fa_enter Tryd.func71 (by decide +kernel) (by kernel_rfl)) <|
  fatab_cons (fa_enter Tryd.func73 (by decide +kernel) (by kernel_rfl)) <|
  fatab_cons (fa_enter Tryd.func74 (by decide +kernel) (by kernel_rfl)) <|
  fatab_cons (fa_enter Tryd.func75 (by decide +kernel) (by kernel_rfl)) <|
  fatab_cons (fa_enter Tryd.func76 (by decide +kernel) (by kernel_rfl)) <|
  fatab_cons (fa_enter Tryd.func77 (by decide +kernel) (by kernel_rfl)) <|
  fatab_cons (fa_enter Tryd.func78 (by decide +kernel) (by kernel_rfl)) <|
  fatab_cons (fa_enter Tryd.func79 (by decide +kernel) (by kernel_rfl)) <|
  fatab_cons (fa_enter Tryd.func82 (by decide +kernel) (by kernel_rfl)) <|
  fatab_cons (fa_enter Tryd.func88 (by decide +kernel) (by kernel_rfl)) <|
  fatab_cons (fa_enter Tryd.func102 (by decide +kernel) (by kernel_rfl)) <|
  fatab_cons (fa_enter Tryd.func103 (by decide +kernel) (by kernel_rfl)) <|
  fatab_cons (fa_enter Tryd.func106 (by decide +kernel) (by kernel_rfl)) <|
  fatab_cons (fa_enter Tryd.func107 (by decide +kernel) (by kernel_rfl)) <|
  fatab_cons (fa_enter Tryd.func108 (by decide +kernel) (by kernel_rfl)) <|
  fatab_cons (fa_enter Tryd.func109 (by decide +kernel) (by kernel_rfl)) <|
  fatab_cons (fa_enter Tryd.func110 (by decide +kernel) (by kernel_rfl)) <|
  fatab_cons (fa_enter Tryd.func127 (by decide +kernel) (by kernel_rfl)) <|
  fatab_cons (fa_enter Tryd.func128 (by decide +kernel) (by kernel_rfl)) <|
  fatab_cons (fa_enter Tryd.func129 (by decide +kernel) (by kernel_rfl)) <|
  fatab_cons (fa_enter Tryd.func130 (by decide +kernel) (by kernel_rfl)) <|
  fatab_cons (fa_enter Tryd.func131 (by decide +kernel) (by kernel_rfl)) <|
  fatab_cons (fa_enter Tryd.func132 (by decide +kernel) (by kernel_rfl)) <|
  fatab_cons (fa_enter Tryd.func133 (by decide +kernel) (by kernel_rfl)) <|
  fatab_cons (fa_enter Tryd.func135 (by decide +kernel) (by kernel_rfl)) <|
  fatab_cons (fa_enter Tryd.func150 (by decide +kernel) (by kernel_rfl)) <|
  fatab_cons (fa_enter Tryd.func151 (by decide +kernel) (by kernel_rfl)) <|
  fatab_cons (fa_enter Tryd.func152 (by decide +kernel) (by kernel_rfl)) <|
  fatab_cons (fa_enter Tryd.func157 (by decide +kernel) (by kernel_rfl)) <|
  fatab_nil
noncomputable def faXtab : XTab := []
theorem faXtab_nil : XTab.ok Tryd.prog [] := fun k fn h => by cases h
theorem faXtab_cons {f : Nat} {e : XE} {t : XTab} (h : e.ok Tryd.prog f) (ht : XTab.ok Tryd.prog t) : XTab.ok Tryd.prog ((f, e) :: t) := fun k g hk => by
  simp only [XTab.find] at hk
  split at hk
  · rename_i e
    cases hk
    rw [← Nat.eq_of_beq_eq_true e]
    exact h
  · exact ht k g hk
theorem faXtab_ok : faXtab.ok Tryd.prog :=
  faXtab_nil
theorem faMixed : Tryd.prog.follows .mixedOrders = true := by kernel_rfl
end Go.Proofs.YtgjphbkaonaneaaDoor
