/-
  The functions that the closed runs enter.
-/
import Derived.Test.YtlhfbhkfmkcnjaaDoorRows
import Derived.Test.YtlhfbhkfmkcnjaaDoorEvM7
import Derived.Laws.Externs
import Derived.Lib.MakeNoZero
namespace Go.Proofs.YtlhfbhkfmkcnjaaDoor
open Go Go.Ev Go.RowKit

theorem aw_enter {f : Nat} {fn : Func} (hf : Tryd.prog.funcs[f]? = some fn) (hn : (fn.name == "runtime.NumGoroutine") = false) (hb : fn.body.isNone = false) : Tryd.prog.funcs[f]? = some fn ∧ ∀ args w, (callFunc f args).run Tryd.prog w = .ok (.enter f args) w :=
  ⟨hf, fun args w => by
    have hn' : ¬ fn.name = "runtime.NumGoroutine" := fun e => by rw [e] at hn; exact absurd hn (by decide)
    have hb' : ¬ fn.body = none := fun e => by rw [e] at hb; cases hb
    simp [callFunc, hf, hn', hb']⟩
noncomputable def awTab : Tab := [(6, Tryd.f6),
  (9, Tryd.f9),
  (16, Tryd.f16),
  (44, Tryd.f44),
  (53, Tryd.f53),
  (120, Tryd.f120),
  (91, Tryd.f91),
  (92, Tryd.f92),
  (93, Tryd.f93),
  (94, Tryd.f94),
  (95, Tryd.f95),
  (97, Tryd.f97),
  (141, Tryd.f141),
  (142, Tryd.f142),
  (143, Tryd.f143),
  (144, Tryd.f144),
  (117, Tryd.f117),
  (118, Tryd.f118),
  (119, Tryd.f119),
  (121, Tryd.f121),
  (122, Tryd.f122),
  (123, Tryd.f123),
  (124, Tryd.f124),
  (125, Tryd.f125),
  (126, Tryd.f126),
  (161, Tryd.f161),
  (162, Tryd.f162),
  (110, Tryd.f110),
  (163, Tryd.f163),
  (138, Tryd.f138),
  (139, Tryd.f139),
  (140, Tryd.f140),
  (145, Tryd.f145),
  (146, Tryd.f146),
  (147, Tryd.f147),
  (148, Tryd.f148),
  (149, Tryd.f149),
  (174, Tryd.f174),
  (135, Tryd.f135),
  (160, Tryd.f160),
  (164, Tryd.f164),
  (165, Tryd.f165),
  (175, Tryd.f175),
  (176, Tryd.f176),
  (177, Tryd.f177),
  (178, Tryd.f178),
  (184, Tryd.f184)]
theorem awtab_nil : Tab.ok Tryd.prog [] := fun k fn h => by cases h
theorem awtab_cons {f : Nat} {fn : Func} {t : Tab} (h : Tryd.prog.funcs[f]? = some fn ∧ ∀ args w, (callFunc f args).run Tryd.prog w = .ok (.enter f args) w) (ht : Tab.ok Tryd.prog t) : Tab.ok Tryd.prog ((f, fn) :: t) := fun k g hk => by
  simp only [Tab.find] at hk
  split at hk
  · rename_i e
    cases hk
    rw [← Nat.eq_of_beq_eq_true e]
    exact h
  · exact ht k g hk
theorem awtab_ok : awTab.ok Tryd.prog :=
  awtab_cons (aw_enter Tryd.func6 (by decide +kernel) (by kernel_rfl)) <|
  awtab_cons (aw_enter Tryd.func9 (by decide +kernel) (by kernel_rfl)) <|
  awtab_cons (aw_enter Tryd.func16 (by decide +kernel) (by kernel_rfl)) <|
  awtab_cons (aw_enter Tryd.func44 (by decide +kernel) (by kernel_rfl)) <|
  awtab_cons (aw_enter Tryd.func53 (by decide +kernel) (by kernel_rfl)) <|
  awtab_cons (aw_enter Tryd.func120 (by decide +kernel) (by kernel_rfl)) <|
  awtab_cons (aw_enter Tryd.func91 (by decide +kernel) (by kernel_rfl)) <|
  awtab_cons (aw_enter Tryd.func92 (by decide +kernel) (by kernel_rfl)) <|
  awtab_cons (aw_enter Tryd.func93 (by decide +kernel) (by kernel_rfl)) <|
  awtab_cons (aw_enter Tryd.func94 (by decide +kernel) (by kernel_rfl)) <|
  awtab_cons (aw_enter Tryd.func95 (by decide +kernel) (by kernel_rfl)) <|
  awtab_cons (aw_enter Tryd.func97 (by decide +kernel) (by kernel_rfl)) <|
  awtab_cons (aw_enter Tryd.func141 (by decide +kernel) (by kernel_rfl)) <|
  awtab_cons (aw_enter Tryd.func142 (by decide +kernel) (by kernel_rfl)) <|
  awtab_cons (aw_enter Tryd.func143 (by decide +kernel) (by kernel_rfl)) <|
  awtab_cons (aw_enter Tryd.func144 (by decide +kernel) (by kernel_rfl)) <|
  awtab_cons (aw_enter Tryd.func117 (by decide +kernel) (by kernel_rfl)) <|
  awtab_cons (aw_enter Tryd.func118 (by decide +kernel) (by kernel_rfl)) <|
  awtab_cons (aw_enter Tryd.func119 (by decide +kernel) (by kernel_rfl)) <|
  awtab_cons (aw_enter Tryd.func121 (by decide +kernel) (by kernel_rfl)) <|
  awtab_cons (aw_enter Tryd.func122 (by decide +kernel) (by kernel_rfl)) <|
  awtab_cons (aw_enter Tryd.func123 (by decide +kernel) (by kernel_rfl)) <|
  awtab_cons (aw_enter Tryd.func124 (by decide +kernel) (by kernel_rfl)) <|
  awtab_cons (aw_enter Tryd.func125 (by decide +kernel) (by kernel_rfl)) <|
  awtab_cons (aw_enter Tryd.func126 (by decide +kernel) (by kernel_rfl)) <|
  awtab_cons (aw_enter Tryd.func161 (by decide +kernel) (by kernel_rfl)) <|
  awtab_cons (aw_enter Tryd.func162 (by decide +kernel) (by kernel_rfl)) <|
  awtab_cons (aw_enter Tryd.func110 (by decide +kernel) (by kernel_rfl)) <|
  awtab_cons (aw_enter Tryd.func163 (by decide +kernel) (by kernel_rfl)) <|
  awtab_cons (aw_enter Tryd.func138 (by decide +kernel) (by kernel_rfl)) <|
  awtab_cons (aw_enter Tryd.func139 (by decide +kernel) (by kernel_rfl)) <|
  awtab_cons (aw_enter Tryd.func140 (by decide +kernel) (by kernel_rfl)) <|
  awtab_cons (aw_enter Tryd.func145 (by decide +kernel) (by kernel_rfl)) <|
  awtab_cons (aw_enter Tryd.func146 (by decide +kernel) (by kernel_rfl)) <|
  awtab_cons (aw_enter Tryd.func147 (by decide +kernel) (by kernel_rfl)) <|
  awtab_cons (aw_enter Tryd.func148 (by decide +kernel) (by kernel_rfl)) <|
  awtab_cons (aw_enter Tryd.func149 (by decide +kernel) (by kernel_rfl)) <|
  awtab_cons (aw_enter Tryd.func174 (by decide +kernel) (by kernel_rfl)) <|
  awtab_cons (aw_enter Tryd.func135 (by decide +kernel) (by kernel_rfl)) <|
  awtab_cons (aw_enter Tryd.func160 (by decide +kernel) (by kernel_rfl)) <|
  awtab_cons (aw_enter Tryd.func164 (by decide +kernel) (by kernel_rfl)) <|
  awtab_cons (aw_enter Tryd.func165 (by decide +kernel) (by kernel_rfl)) <|
  awtab_cons (aw_enter Tryd.func175 (by decide +kernel) (by kernel_rfl)) <|
  awtab_cons (aw_enter Tryd.func176 (by decide +kernel) (by kernel_rfl)) <|
  awtab_cons (aw_enter Tryd.func177 (by decide +kernel) (by kernel_rfl)) <|
  awtab_cons (aw_enter Tryd.func178 (by decide +kernel) (by kernel_rfl)) <|
  awtab_cons (aw_enter Tryd.func184 (by decide +kernel) (by kernel_rfl)) <|
  awtab_nil
noncomputable def awXtab : XTab := []
theorem awXtab_nil : XTab.ok Tryd.prog [] := fun k fn h => by cases h
theorem awXtab_cons {f : Nat} {e : XE} {t : XTab} (h : e.ok Tryd.prog f) (ht : XTab.ok Tryd.prog t) : XTab.ok Tryd.prog ((f, e) :: t) := fun k g hk => by
  simp only [XTab.find] at hk
  split at hk
  · rename_i e
    cases hk
    rw [← Nat.eq_of_beq_eq_true e]
    exact h
  · exact ht k g hk
theorem awXtab_ok : awXtab.ok Tryd.prog :=
  awXtab_nil
theorem awMixed : Tryd.prog.follows .mixedOrders = true := by kernel_rfl
end Go.Proofs.YtlhfbhkfmkcnjaaDoor
