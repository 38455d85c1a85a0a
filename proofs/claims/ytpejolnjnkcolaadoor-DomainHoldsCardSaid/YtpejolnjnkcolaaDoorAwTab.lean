/-
  The functions that the closed runs enter.
-/
import Derived.Test.YtpejolnjnkcolaaDoorRows
import Derived.Test.YtpejolnjnkcolaaDoorEvM7
import Derived.Laws.Externs
import Derived.Lib.MakeNoZero
namespace Go.Proofs.YtpejolnjnkcolaaDoor
open Go Go.Ev Go.RowKit

theorem aw_enter {f : Nat} {fn : Func} (hf : Tryd.prog.funcs[f]? = some fn) (hn : (fn.name == "runtime.NumGoroutine") = false) (hb : fn.body.isNone = false) : Tryd.prog.funcs[f]? = some fn ∧ ∀ args w, (callFunc f args).run Tryd.prog w = .ok (.enter f args) w :=
  ⟨hf, fun args w => by
    have hn' : ¬ fn.name = "runtime.NumGoroutine" := fun e => by rw [e] at hn; exact absurd hn (by decide)
    have hb' : ¬ fn.body = none := fun e => by rw [e] at hb; cases hb
    simp [callFunc, hf, hn', hb']⟩
noncomputable def awTab : Tab := [(5, Tryd.f5),
  (8, Tryd.f8),
  (15, Tryd.f15),
  (27, Tryd.f27),
  (36, Tryd.f36),
  (41, Tryd.f41),
  (48, Tryd.f48),
  (49, Tryd.f49),
  (50, Tryd.f50),
  (51, Tryd.f51),
  (52, Tryd.f52),
  (54, Tryd.f54),
  (59, Tryd.f59),
  (60, Tryd.f60),
  (61, Tryd.f61),
  (62, Tryd.f62),
  (71, Tryd.f71),
  (72, Tryd.f72),
  (73, Tryd.f73),
  (74, Tryd.f74),
  (75, Tryd.f75),
  (76, Tryd.f76),
  (77, Tryd.f77),
  (78, Tryd.f78),
  (79, Tryd.f79),
  (80, Tryd.f80),
  (81, Tryd.f81),
  (82, Tryd.f82),
  (83, Tryd.f83),
  (86, Tryd.f86),
  (87, Tryd.f87),
  (88, Tryd.f88),
  (89, Tryd.f89),
  (90, Tryd.f90),
  (91, Tryd.f91),
  (92, Tryd.f92),
  (93, Tryd.f93),
  (94, Tryd.f94),
  (95, Tryd.f95),
  (97, Tryd.f97),
  (98, Tryd.f98),
  (99, Tryd.f99),
  (108, Tryd.f108),
  (109, Tryd.f109),
  (110, Tryd.f110),
  (111, Tryd.f111),
  (117, Tryd.f117)]
theorem awtab_nil : Tab.ok Tryd.prog [] := fun k fn h => by cases h
theorem awtab_cons {f : Nat} {fn : Func} {t : Tab} (h : Tryd.prog.funcs[f]? = some fn ∧ ∀ args w, (callFunc f args).run Tryd.prog w = .ok (.enter f args) w) (ht : Tab.ok Tryd.prog t) : Tab.ok Tryd.prog ((f, fn) :: t) := fun k g hk => by
  simp only [Tab.find] at hk
  split at hk
  · rename_i e
    cases hk
    rw [← Nat.eq_of_beq_eq_true e]
    exact h
  · exact ht k g hk
theorem awtab_ok : awTab.ok Tryd.prog :=
  awtab_cons (aw_enter Tryd.func5 (by decide +kernel) (by kernel_rfl)) <|
  awtab_cons (aw_enter Tryd.func8 (by decide +kernel) (by kernel_rfl)) <|
  awtab_cons (aw_enter Tryd.func15 (by decide +kernel) (by kernel_rfl)) <|
  awtab_cons (aw_enter Tryd.func27 (by decide +kernel) (by kernel_rfl)) <|
  awtab_cons (aw_enter Tryd.func36 (by decide +kernel) (by kernel_rfl)) <|
  awtab_cons (aw_enter Tryd.func41 (by decide +kernel) (by kernel_rfl)) <|
  awtab_cons (aw_enter Tryd.func48 (by decide +kernel) (by kernel_rfl)) <|
  awtab_cons (aw_enter Tryd.func49 (by decide +kernel) (by kernel_rfl)) <|
  awtab_cons (aw_enter Tryd.func50 (by decide +kernel) (by kernel_rfl)) <|
  awtab_cons (aw_enter Tryd.func51 (by decide +kernel) (by kernel_rfl)) <|
  awtab_cons (aw_enter Tryd.func52 (by decide +kernel) (by kernel_rfl)) <|
  awtab_cons (aw_enter Tryd.func54 (by decide +kernel) (by kernel_rfl)) <|
  awtab_cons (aw_enter Tryd.func59 (by decide +kernel) (by kernel_rfl)) <|
  awtab_cons (aw_enter Tryd.func60 (by decide +kernel) (by kernel_rfl)) <|
  awtab_cons (aw_enter Tryd.func61 (by decide +kernel) (by kernel_rfl)) <|
  awtab_cons (aw_enter Tryd.func62 (by decide +kernel) (by kernel_rfl)) <|
  awtab_cons (aw_enter Tryd.func71 (by decide +kernel) (by kernel_rfl)) <|
  awtab_cons (aw_enter Tryd.func72 (by decide +kernel) (by kernel_rfl)) <|
  awtab_cons (aw_enter Tryd.func73 (by decide +kernel) (by kernel_rfl)) <|
  awtab_cons (aw_enter Tryd.func74 (by decide +kernel) (by kernel_rfl)) <|
  awtab_cons (aw_enter Tryd.func75 (by decide +kernel) (by kernel_rfl)) <|
  awtab_cons (aw_enter Tryd.func76 (by decide +kernel) (by kernel_rfl)) <|
  awtab_cons (aw_enter Tryd.func77 (by decide +kernel) (by kernel_rfl)) <|
  awtab_cons (aw_enter Tryd.func78 (by decide +kernel) (by kernel_rfl)) <|
  awtab_cons (aw_enter Tryd.func79 (by decide +kernel) (by kernel_rfl)) <|
  awtab_cons (aw_enter Tryd.func80 (by decide +kernel) (by kernel_rfl)) <|
  awtab_cons (aw_enter Tryd.func81 (by decide +kernel) (by kernel_rfl)) <|
  awtab_cons (aw_enter Tryd.func82 (by decide +kernel) (by kernel_rfl)) <|
  awtab_cons (aw_enter Tryd.func83 (by decide +kernel) (by kernel_rfl)) <|
  awtab_cons (aw_enter Tryd.func86 (by decide +kernel) (by kernel_rfl)) <|
  awtab_cons (aw_enter Tryd.func87 (by decide +kernel) (by kernel_rfl)) <|
  awtab_cons (aw_enter Tryd.func88 (by decide +kernel) (by kernel_rfl)) <|
  awtab_cons (aw_enter Tryd.func89 (by decide +kernel) (by kernel_rfl)) <|
  awtab_cons (aw_enter Tryd.func90 (by decide +kernel) (by kernel_rfl)) <|
  awtab_cons (aw_enter Tryd.func91 (by decide +kernel) (by kernel_rfl)) <|
  awtab_cons (aw_enter Tryd.func92 (by decide +kernel) (by kernel_rfl)) <|
  awtab_cons (aw_enter Tryd.func93 (by decide +kernel) (by kernel_rfl)) <|
  awtab_cons (aw_enter Tryd.func94 (by decide +kernel) (by kernel_rfl)) <|
  awtab_cons (aw_enter Tryd.func95 (by decide +kernel) (by kernel_rfl)) <|
  awtab_cons (aw_enter Tryd.func97 (by decide +kernel) (by kernel_rfl)) <|
  awtab_cons (aw_enter Tryd.func98 (by decide +kernel) (by kernel_rfl)) <|
  awtab_cons (aw_enter Tryd.func99 (by decide +kernel) (by kernel_rfl)) <|
  awtab_cons (aw_enter Tryd.func108 (by decide +kernel) (by kernel_rfl)) <|
  awtab_cons (aw_enter Tryd.func109 (by decide +kernel) (by kernel_rfl)) <|
  awtab_cons (aw_enter Tryd.func110 (by decide +kernel) (by kernel_rfl)) <|
  awtab_cons (aw_enter Tryd.func111 (by decide +kernel) (by kernel_rfl)) <|
  awtab_cons (aw_enter Tryd.func117 (by decide +kernel) (by kernel_rfl)) <|
  awtab_nil
noncomputable def awXtab : XTab := []
theorem awXtab_nil : XTab.ok Tryd.prog [] := fun k fn h => by cases h
theorem awXtab_cons {f : Nat} {e : XE} {t : XTab} (h : e.ok Tryd.prog f) (ht : XTab.ok Tryd.prog t) : XTab.ok Tryd.prog ((f, e) :: t) := fun k g hk => by
  simp only [XTab.find] at hk
  split at hk
  · rename_i e
    cases hk
    rw [← Nat.eq_of_beq_eq_true e]
    exact h
  · exact ht k g hk
theorem awXtab_ok : awXtab.ok Tryd.prog :=
  awXtab_nil
theorem awMixed : Tryd.prog.follows .mixedOrders = true := by kernel_rfl
end Go.Proofs.YtpejolnjnkcolaaDoor
