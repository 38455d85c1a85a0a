/-
  The functions that the closed runs enter.
-/
import Derived.Test.YtcbjkclajkjicaaGreatDoorRows
import Derived.Test.YtcbjkclajkjicaaGreatDoorEvM7
import Derived.Laws.Externs
import Derived.Lib.MakeNoZero
namespace Go.Proofs.YtcbjkclajkjicaaGreatDoor
open Go Go.Ev Go.RowKit

theorem fa_enter {f : Nat} {fn : Func} (hf : Tryz.prog.funcs[f]? = some fn) (hn : (fn.name == "runtime.NumGoroutine") = false) (hb : fn.body.isNone = false) : Tryz.prog.funcs[f]? = some fn ∧ ∀ args w, (callFunc f args).run Tryz.prog w = .ok (.enter f args) w :=
  ⟨hf, fun args w => by
    have hn' : ¬ fn.name = "runtime.NumGoroutine" := fun e => by rw [e] at hn; exact absurd hn (by decide)
    have hb' : ¬ fn.body = none := fun e => by rw [e] at hb; cases hb
    simp [callFunc, hf, hn', hb']⟩
noncomputable def faTab : Tab := [(5, Tryz.f5),
  (10, Tryz.f10),
  (30, Tryz.f30),
  (23, Tryz.f23),
  (12, Tryz.f12),
  (26, Tryz.f26),
  (24, Tryz.f24),
  (27, Tryz.f27),
  (46, Tryz.f46),
  (55, Tryz.f55),
  (56, Tryz.f56),
  (39, Tryz.f39),
  (45, Tryz.f45),
  (49, Tryz.f49),
  (80, Tryz.f80),
  (81, Tryz.f81),
  (47, Tryz.f47),
  (48, Tryz.f48),
  (44, Tryz.f44),
  (86, Tryz.f86),
  (67, Tryz.f67),
  (25, Tryz.f25),
  (28, Tryz.f28),
  (73, Tryz.f73),
  (79, Tryz.f79),
  (70, Tryz.f70),
  (71, Tryz.f71),
  (72, Tryz.f72),
  (40, Tryz.f40),
  (41, Tryz.f41),
  (42, Tryz.f42),
  (43, Tryz.f43),
  (50, Tryz.f50),
  (51, Tryz.f51),
  (52, Tryz.f52),
  (105, Tryz.f105),
  (68, Tryz.f68),
  (69, Tryz.f69),
  (74, Tryz.f74),
  (82, Tryz.f82)]
theorem fatab_nil : Tab.ok Tryz.prog [] := fun k fn h => by cases h
theorem fatab_cons {f : Nat} {fn : Func} {t : Tab} (h : Tryz.prog.funcs[f]? = some fn ∧ ∀ args w, (callFunc f args).run Tryz.prog w = .ok (.enter f args) w) (ht : Tab.ok Tryz.prog t) : Tab.ok Tryz.prog ((f, fn) :: t) := fun k g hk => by
  simp only [Tab.find] at hk
  split at hk
  · rename_i e
    cases hk
    rw [← Nat.eq_of_beq_eq_true e]
    exact h
  · exact ht k g hk
theorem fatab_ok : faTab.ok Tryz.prog :=
  fatab_cons (fa_enter Tryz.func5 (by decide +kernel) (by kernel_rfl)) <|
  fatab_cons (fa_enter Tryz.func10 (by decide +kernel) (by kernel_rfl)) <|
  fatab_cons (fa_enter Tryz.func30 (by decide +kernel) (by kernel_rfl)) <|
  fatab_cons (fa_enter Tryz.func23 (by decide +kernel) (by kernel_rfl)) <|
  fatab_cons (fa_enter Tryz.func12 (by decide +kernel) (by kernel_rfl)) <|
  fatab_cons (fa_enter Tryz.func26 (by decide +kernel) (by kernel_rfl)) <|
  fatab_cons (fa_enter Tryz.func24 (by decide +kernel) (by kernel_rfl)) <|
  fatab_cons (fa_enter Tryz.func27 (by decide +kernel) (by kernel_rfl)) <|
  fatab_cons (fa_enter Tryz.func46 (by decide +kernel) (by kernel_rfl)) <|
  fatab_cons (fa_enter Tryz.func55 (by decide +kernel) (by kernel_rfl)) <|
  fatab_cons (fa_enter Tryz.func56 (by decide +kernel) (by kernel_rfl)) <|
  fatab_cons (fa_enter Tryz.func39 (by decide +kernel) (by kernel_rfl)) <|
  fatab_cons (fa_enter Tryz.func45 (by decide +kernel) (by kernel_rfl)) <|
  fatab_cons (fa_enter Tryz.func49 (by decide +kernel) (by kernel_rfl)) <|
  fatab_cons (fa_enter Tryz.func80 (by decide +kernel) (by kernel_rfl)) <|
  fatab_cons (fa_enter Tryz.func81 (by decide +kernel) (by kernel_rfl)) <|
  fatab_cons (fa_enter Tryz.func47 (by decide +kernel) (by kernel_rfl)) <|
  fatab_cons (fa_enter Tryz.func48 (by decide +kernel) (by kernel_rfl)) <|
  fatab_cons (fa_enter Tryz.func44 (by decide +kernel) (by kernel_rfl)) <|
  fatab_cons (fa_enter Tryz.func86 (by decide +kernel) (by kernel_rfl)) <|
  fatab_cons (fa_enter Tryz.func67 (by decide +kernel) (by kernel_rfl)) <|
  fatab_cons (fa_enter Tryz.func25 (by decide +kernel) (by kernel_rfl)) <|
  fatab_cons (fa_enter Tryz.func28 (by decide +kernel) (by kernel_rfl)) <|
  fatab_cons (fa_enter Tryz.func73 (by decide +kernel) (by kernel_rfl)) <|
  fatab_cons (fa_enter Tryz.func79 (by decide +kernel) (by kernel_rfl)) <|
  fatab_cons (fa_enter Tryz.func70 (by decide +kernel) (by kernel_rfl)) <|
  fatab_cons (fa_enter Tryz.func71 (by decide +kernel) (by kernel_rfl)) <|
  fatab_cons (fa_enter Tryz.func72 (by decide +kernel) (by kernel_rfl)) <|
  fatab_cons (fa_enter Tryz.func40 (by decide +kernel) (by kernel_rfl)) <|
  fatab_cons (fa_enter Tryz.func41 (by decide +kernel) (by kernel_rfl)) <|
  fatab_cons (fa_enter Tryz.func42 (by decide +kernel) (by kernel_rfl)) <|
  fatab_cons (fa_enter Tryz.func43 (by decide +kernel) (by kernel_rfl)) <|
  fatab_cons (fa_enter Tryz.func50 (by decide +kernel) (by kernel_rfl)) <|
  fatab_cons (fa_enter Tryz.func51 (by decide +kernel) (by kernel_rfl)) <|
  fatab_cons (fa_enter Tryz.func52 (by decide +kernel) (by kernel_rfl)) <|
  fatab_cons (fa_enter Tryz.func105 (by decide +kernel) (by kernel_rfl)) <|
  fatab_cons (fa_enter Tryz.func68 (by decide +kernel) (by kernel_rfl)) <|
  fatab_cons (fa_enter Tryz.func69 (by decide +kernel) (by kernel_rfl)) <|
  fatab_cons (fa_enter Tryz.func74 (by decide +kernel) (by kernel_rfl)) <|
  fatab_cons (fa_enter Tryz.func82 (by decide +kernel) (by kernel_rfl)) <|
  fatab_nil
noncomputable def faXtab : XTab := []
theorem faXtab_nil : XTab.ok Tryz.prog [] := fun k fn h => by cases h
theorem faXtab_cons {f : Nat} {e : XE} {t : XTab} (h : e.ok Tryz.prog f) (ht : XTab.ok Tryz.prog t) : XTab.ok Tryz.prog ((f, e) :: t) := fun k g hk => by
  simp only [XTab.find] at hk
  split at hk
  · rename_i e
    cases hk
    rw [← Nat.eq_of_beq_eq_true e]
    exact h
  · exact ht k g hk
theorem faXtab_ok : faXtab.ok Tryz.prog :=
  faXtab_nil
theorem faMixed : Tryz.prog.follows .mixedOrders = true := by kernel_rfl
end Go.Proofs.YtcbjkclajkjicaaGreatDoor
