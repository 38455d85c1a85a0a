/-
  The functions that the closed runs enter.
-/
import Derived.Test.YthakhdbakmlooaaDoorRows
import Derived.Test.YthakhdbakmlooaaDoorEvM7
import Derived.Laws.Externs
import Derived.Lib.MakeNoZero
namespace Go.Proofs.YthakhdbakmlooaaDoor
open Go Go.Ev Go.RowKit

theorem fa_enter {f : Nat} {fn : Func} (hf : Tryd.prog.funcs[f]? = some fn) (hn : (fn.name == "runtime.NumGoroutine") = false) (hb : fn.body.isNone = false) : Tryd.prog.funcs[f]? = some fn ∧ ∀ args w, (callFunc f args).run Tryd.prog w = .ok (.enter f args) w :=
  ⟨hf, fun args w => by
    have hn' : ¬ fn.name = "runtime.NumGoroutine" := fun e => by rw [e] at hn; exact absurd hn (by decide)
    have hb' : ¬ fn.body = none := fun e => by rw [e] at hb; cases hb
    simp [callFunc, hf, hn', hb']⟩
noncomputable def faTab : Tab := [(8, Tryd.f8),
  (11, Tryd.f11),
  (15, Tryd.f15),
  (16, Tryd.f16),
  (26, Tryd.f26),
  (31, Tryd.f31),
  (36, Tryd.f36),
  (37, Tryd.f37),
  (38, Tryd.f38),
  (41, Tryd.f41),
  (42, Tryd.f42),
  (43, Tryd.f43),
  (45, Tryd.f45),
  (46, Tryd.f46),
  (47, Tryd.f47),
  (48, Tryd.f48),
  (49, Tryd.f49),
  (50, Tryd.f50),
  (29, Tryd.f29),
  (53, Tryd.f53),
  (58, Tryd.f58),
  (61, Tryd.f61),
  (62, Tryd.f62),
  (69, Tryd.f69),
  (70, Tryd.f70),
  (65, Tryd.f65),
  (66, Tryd.f66),
  (67, Tryd.f67),
  (77, Tryd.f77),
  (78, Tryd.f78),
  (79, Tryd.f79),
  (80, Tryd.f80),
  (81, Tryd.f81),
  (82, Tryd.f82),
  (83, Tryd.f83),
  (86, Tryd.f86),
  (89, Tryd.f89),
  (90, Tryd.f90),
  (91, Tryd.f91),
  (96, Tryd.f96)]
theorem fatab_nil : Tab.ok Tryd.prog [] := fun k fn h => by cases h
theorem fatab_cons {f : Nat} {fn : Func} {t : Tab} (h : Tryd.prog.funcs[f]? = some fn ∧ ∀ args w, (callFunc f args).run Tryd.prog w = .ok (.enter f args) w) (ht : Tab.ok Tryd.prog t) : Tab.ok Tryd.prog ((f, fn) :: t) := fun k g hk => by
  simp only [Tab.find] at hk
  split at hk
  · rename_i e
    cases hk
    rw [← Nat.eq_of_beq_eq_true e]
    exact h
  · exact ht k g hk
theorem fatab_ok : faTab.ok Tryd.prog :=
  fatab_cons (fa_enter Tryd.func8 (by decide +kernel) (by kernel_rfl)) <|
  fatab_cons (fa_enter Tryd.func11 (by decide +kernel) (by kernel_rfl)) <|
  fatab_cons (fa_enter Tryd.func15 (by decide +kernel) (by kernel_rfl)) <|
  fatab_cons (fa_enter Tryd.func16 (by decide +kernel) (by kernel_rfl)) <|
  fatab_cons (fa_enter Tryd.func26 (by decide +kernel) (by kernel_rfl)) <|
  fatab_cons (fa_enter Tryd.func31 (by decide +kernel) (by kernel_rfl)) <|
  fatab_cons (fa_enter Tryd.func36 (by decide +kernel) (by kernel_rfl)) <|
  fatab_cons (fa_enter Tryd.func37 (by decide +kernel) (by kernel_rfl)) <|
  fatab_cons (fa_enter Tryd.func38 (by decide +kernel) (by kernel_rfl)) <|
  fatab_cons (fa_enter Tryd.func41 (by decide +kernel) (by kernel_rfl)) <|
  fatab_cons (fa_enter Tryd.func42 (by decide +kernel) (by kernel_rfl)) <|
  fatab_cons (fa_enter Tryd.func43 (by decide +kernel) (by kernel_rfl)) <|
  fatab_cons (fa_enter Tryd.func45 (by decide +kernel) (by kernel_rfl)) <|
  fatab_cons (fa_enter Tryd.func46 (by decide +kernel) (by kernel_rfl)) <|
  fatab_cons (fa_enter Tryd.func47 (by decide +kernel) (by kernel_rfl)) <|
  fatab_cons (fa_enter Tryd.func48 (by decide +kernel) (by kernel_rfl)) <|
  fatab_cons (fa_enter Tryd.func49 (by decide +kernel) (by kernel_rfl)) <|
  fatab_cons (fa_enter Tryd.func50 (by decide +kernel) (by kernel_rfl)) <|
  fatab_cons (fa_enter Tryd.func29 (by decide +kernel) (by kernel_rfl)) <|
  fatab_cons (fa_enter Tryd.func53 (by decide +kernel) (by kernel_rfl)) <|
  fatab_cons (fa_enter Tryd.func58 (by decide +kernel) (by kernel_rfl)) <|
  fatab_cons (fa_enter Tryd.func61 (by decide +kernel) (by kernel_rfl)) <|
  fatab_cons (fa_enter Tryd.func62 (by decide +kernel) (by kernel_rfl)) <|
  fatab_cons (fa_enter Tryd.func69 (by decide +kernel) (by kernel_rfl)) <|
  fatab_cons (fa_enter Tryd.func70 (by decide +kernel) (by kernel_rfl)) <|
  fatab_cons (fa_enter Tryd.func65 (by decide +kernel) (by kernel_rfl)) <|
  fatab_cons (fa_enter Tryd.func66 (by decide +kernel) (by kernel_rfl)) <|
  fatab_cons (fa_enter Tryd.func67 (by decide +kernel) (by kernel_rfl)) <|
  fatab_cons (fa_enter Tryd.func77 (by decide +kernel) (by kernel_rfl)) <|
  fatab_cons (fa_enter Tryd.func78 (by decide +kernel) (by kernel_rfl)) <|
  fatab_cons (fa_enter Tryd.func79 (by decide +kernel) (by kernel_rfl)) <|
  fatab_cons (fa_enter Tryd.func80 (by decide +kernel) (by kernel_rfl)) <|
  fatab_cons (fa_enter Tryd.func81 (by decide +kernel) (by kernel_rfl)) <|
  fatab_cons (fa_enter Tryd.func82 (by decide +kernel) (by kernel_rfl)) <|
  fatab_cons (fa_enter Tryd.func83 (by decide +kernel) (by kernel_rfl)) <|
  fatab_cons (fa_enter Tryd.func86 (by decide +kernel) (by kernel_rfl)) <|
  fatab_cons (fa_enter Tryd.func89 (by decide +kernel) (by kernel_rfl)) <|
  fatab_cons (fa_enter Tryd.func90 (by decide +kernel) (by kernel_rfl)) <|
  fatab_cons (fa_enter Tryd.func91 (by decide +kernel) (by kernel_rfl)) <|
  fatab_cons (fa_enter Tryd.func96 (by decide +kernel) (by kernel_rfl)) <|
  fatab_nil
theorem faMixed : Tryd.prog.follows .mixedOrders = true := by kernel_rfl
end Go.Proofs.YthakhdbakmlooaaDoor
