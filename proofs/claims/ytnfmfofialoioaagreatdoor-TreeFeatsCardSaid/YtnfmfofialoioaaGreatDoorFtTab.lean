/-
  The functions that the closed runs enter.
-/
import Derived.Test.YtnfmfofialoioaaGreatDoorRows
import Derived.Test.YtnfmfofialoioaaGreatDoorEvS
import Derived.Laws.Externs
import Derived.Lib.MakeNoZero
namespace Go.Proofs.YtnfmfofialoioaaGreatDoor
open Go Go.Ev Go.RowKit

theorem enter_of {f : Nat} {fn : Func} (hf : Tryz.prog.funcs[f]? = some fn) (hn : (fn.name == "runtime.NumGoroutine") = false) (hb : fn.body.isNone = false) : Tryz.prog.funcs[f]? = some fn ∧ ∀ args w, (callFunc f args).run Tryz.prog w = .ok (.enter f args) w :=
  ⟨hf, fun args w => by
    have hn' : ¬ fn.name = "runtime.NumGoroutine" := fun e => by rw [e] at hn; exact absurd hn (by decide)
    have hb' : ¬ fn.body = none := fun e => by rw [e] at hb; cases hb
    simp [callFunc, hf, hn', hb']⟩
noncomputable def tab : Tab := [(3, Tryz.f3),
  (4, Tryz.f4),
  (5, Tryz.f5),
  (6, Tryz.f6),
  (7, Tryz.f7),
  (8, Tryz.f8),
  (9, Tryz.f9),
  (10, Tryz.f10),
  (11, Tryz.f11),
  (13, Tryz.f13),
  (14, Tryz.f14),
  (16, Tryz.f16),
  (17, Tryz.f17),
  (20, Tryz.f20),
  (22, Tryz.f22),
  (24, Tryz.f24),
  (26, Tryz.f26),
  (27, Tryz.f27),
  (28, Tryz.f28),
  (29, Tryz.f29),
  (30, Tryz.f30),
  (31, Tryz.f31),
  (33, Tryz.f33),
  (34, Tryz.f34),
  (38, Tryz.f38),
  (40, Tryz.f40),
  (46, Tryz.f46),
  (47, Tryz.f47),
  (48, Tryz.f48),
  (49, Tryz.f49),
  (50, Tryz.f50),
  (52, Tryz.f52),
  (53, Tryz.f53),
  (57, Tryz.f57),
  (58, Tryz.f58),
  (60, Tryz.f60),
  (71, Tryz.f71),
  (72, Tryz.f72),
  (73, Tryz.f73),
  (74, Tryz.f74),
  (75, Tryz.f75),
  (76, Tryz.f76),
  (77, Tryz.f77),
  (80, Tryz.f80),
  (81, Tryz.f81),
  (88, Tryz.f88),
  (90, Tryz.f90),
  (93, Tryz.f93),
  (95, Tryz.f95),
  (98, Tryz.f98),
  (99, Tryz.f99),
  (100, Tryz.f100),
  (101, Tryz.f101),
  (102, Tryz.f102),
  (111, Tryz.f111),
  (113, Tryz.f113),
  (118, Tryz.f118),
  (119, Tryz.f119),
  (120, Tryz.f120),
  (121, Tryz.f121),
  (122, Tryz.f122),
  (123, Tryz.f123),
  (130, Tryz.f130),
  (131, Tryz.f131),
  (132, Tryz.f132),
  (133, Tryz.f133),
  (138, Tryz.f138)]
theorem tab_nil : Tab.ok Tryz.prog [] := fun k fn h => by cases h
theorem tab_cons {f : Nat} {fn : Func} {t : Tab} (h : Tryz.prog.funcs[f]? = some fn ∧ ∀ args w, (callFunc f args).run Tryz.prog w = .ok (.enter f args) w) (ht : Tab.ok Tryz.prog t) : Tab.ok Tryz.prog ((f, fn) :: t) := fun k g hk => by
  simp only [Tab.find] at hk
  split at hk
  · rename_i e
    cases hk
    rw [← Nat.eq_of_beq_eq_true e]
    exact h
  · exact ht k g hk
theorem tab_ok : tab.ok Tryz.prog :=
  tab_cons (enter_of Tryz.func3 (by decide +kernel) (by kernel_rfl)) <|
  tab_cons (enter_of Tryz.func4 (by decide +kernel) (by kernel_rfl)) <|
  tab_cons (enter_of Tryz.func5 (by decide +kernel) (by kernel_rfl)) <|
  tab_cons (enter_of Tryz.func6 (by decide +kernel) (by kernel_rfl)) <|
  tab_cons (enter_of Tryz.func7 (by decide +kernel) (by kernel_rfl)) <|
  tab_cons (enter_of Tryz.func8 (by decide +kernel) (by kernel_rfl)) <|
  tab_cons (enter_of Tryz.func9 (by decide +kernel) (by kernel_rfl)) <|
  tab_cons (enter_of Tryz.func10 (by decide +kernel) (by kernel_rfl)) <|
  tab_cons (enter_of Tryz.func11 (by decide +kernel) (by kernel_rfl)) <|
  tab_cons (enter_of Tryz.func13 (by decide +kernel) (by kernel_rfl)) <|
  tab_cons (enter_of Tryz.func14 (by decide +kernel) (by kernel_rfl)) <|
  tab_cons (enter_of Tryz.func16 (by decide +kernel) (by kernel_rfl)) <|
  tab_cons (enter_of Tryz.func17 (by decide +kernel) (by kernel_rfl)) <|
  tab_cons (enter_of Tryz.func20 (by decide +kernel) (by kernel_rfl)) <|
  tab_cons (enter_of Tryz.func22 (by decide +kernel) (by kernel_rfl)) <|
  tab_cons (enter_of Tryz.func24 (by decide +kernel) (by kernel_rfl)) <|
  tab_cons (enter_of Tryz.func26 (by decide +kernel) (by kernel_rfl)) <|
  tab_cons (enter_of Tryz.func27 (by decide +kernel) (by kernel_rfl)) <|
  tab_cons (enter_of Tryz.func28 (by decide +kernel) (by kernel_rfl)) <|
  tab_cons (enter_of Tryz.func29 (by decide +kernel) (by kernel_rfl)) <|
  tab_cons (enter_of Tryz.func30 (by decide +kernel) (by kernel_rfl)) <|
  tab_cons (enter_of Tryz.func31 (by decide +kernel) (by kernel_rfl)) <|
  tab_cons (enter_of Tryz.func33 (by decide +kernel) (by kernel_rfl)) <|
  tab_cons (enter_of Tryz.func34 (by decide +kernel) (by kernel_rfl)) <|
  tab_cons (enter_of Tryz.func38 (by decide +kernel) (by kernel_rfl)) <|
  tab_cons (enter_of Tryz.func40 (by decide +kernel) (by kernel_rfl)) <|
  tab_cons (enter_of Tryz.func46 (by decide +kernel) (by kernel_rfl)) <|
  tab_cons (enter_of Tryz.func47 (by decide +kernel) (by kernel_rfl)) <|
  tab_cons (enter_of Tryz.func48 (by decide +kernel) (by kernel_rfl)) <|
  tab_cons (enter_of Tryz.func49 (by decide +kernel) (by kernel_rfl)) <|
  tab_cons (enter_of Tryz.func50 (by decide +kernel) (by kernel_rfl)) <|
  tab_cons (enter_of Tryz.func52 (by decide +kernel) (by kernel_rfl)) <|
  tab_cons (enter_of Tryz.func53 (by decide +kernel) (by kernel_rfl)) <|
  tab_cons (enter_of Tryz.func57 (by decide +kernel) (by kernel_rfl)) <|
  tab_cons (enter_of Tryz.func58 (by decide +kernel) (by kernel_rfl)) <|
  tab_cons (enter_of Tryz.func60 (by decide +kernel) (by kernel_rfl)) <|
  tab_cons (enter_of Tryz.func71 (by decide +kernel) (by kernel_rfl)) <|
  tab_cons (enter_of Tryz.func72 (by decide +kernel) (by kernel_rfl)) <|
  tab_cons (enter_of Tryz.func73 (by decide +kernel) (by kernel_rfl)) <|
  tab_cons (enter_of Tryz.func74 (by decide +kernel) (by kernel_rfl)) <|
  tab_cons (enter_of Tryz.func75 (by decide +kernel) (by kernel_rfl)) <|
  tab_cons (enter_of Tryz.func76 (by decide +kernel) (by kernel_rfl)) <|
  tab_cons (enter_of Tryz.func77 (by decide +kernel) (by kernel_rfl)) <|
  tab_cons (enter_of Tryz.func80 (by decide +kernel) (by kernel_rfl)) <|
  tab_cons (enter_of Tryz.func81 (by decide +kernel) (by kernel_rfl)) <|
  tab_cons (enter_of Tryz.func88 (by decide +kernel) (by kernel_rfl)) <|
  tab_cons (enter_of Tryz.func90 (by decide +kernel) (by kernel_rfl)) <|
  tab_cons (enter_of Tryz.func93 (by decide +kernel) (by kernel_rfl)) <|
  tab_cons (enter_of Tryz.func95 (by decide +kernel) (by kernel_rfl)) <|
  tab_cons (enter_of Tryz.func98 (by decide +kernel) (by kernel_rfl)) <|
  tab_cons (enter_of Tryz.func99 (by decide +kernel) (by kernel_rfl)) <|
  tab_cons (enter_of Tryz.func100 (by decide +kernel) (by kernel_rfl)) <|
  tab_cons (enter_of Tryz.func101 (by decide +kernel) (by kernel_rfl)) <|
  tab_cons (enter_of Tryz.func102 (by decide +kernel) (by kernel_rfl)) <|
  tab_cons (enter_of Tryz.func111 (by decide +kernel) (by kernel_rfl)) <|
  tab_cons (enter_of Tryz.func113 (by decide +kernel) (by kernel_rfl)) <|
  tab_cons (enter_of Tryz.func118 (by decide +kernel) (by kernel_rfl)) <|
  tab_cons (enter_of Tryz.func119 (by decide +kernel) (by kernel_rfl)) <|
  tab_cons (enter_of Tryz.func120 (by decide +kernel) (by kernel_rfl)) <|
  tab_cons (enter_of Tryz.func121 (by decide +kernel) (by kernel_rfl)) <|
  tab_cons (enter_of Tryz.func122 (by decide +kernel) (by kernel_rfl)) <|
  tab_cons (enter_of Tryz.func123 (by decide +kernel) (by kernel_rfl)) <|
  tab_cons (enter_of Tryz.func130 (by decide +kernel) (by kernel_rfl)) <|
  tab_cons (enter_of Tryz.func131 (by decide +kernel) (by kernel_rfl)) <|
  tab_cons (enter_of Tryz.func132 (by decide +kernel) (by kernel_rfl)) <|
  tab_cons (enter_of Tryz.func133 (by decide +kernel) (by kernel_rfl)) <|
  tab_cons (enter_of Tryz.func138 (by decide +kernel) (by kernel_rfl)) <|
  tab_nil
noncomputable def xtab : XTab := [(108, .same)]
theorem xtab_nil : XTab.ok Tryz.prog [] := fun k fn h => by cases h
theorem xtab_cons {f : Nat} {e : XE} {t : XTab} (h : e.ok Tryz.prog f) (ht : XTab.ok Tryz.prog t) : XTab.ok Tryz.prog ((f, e) :: t) := fun k g hk => by
  simp only [XTab.find] at hk
  split at hk
  · rename_i e
    cases hk
    rw [← Nat.eq_of_beq_eq_true e]
    exact h
  · exact ht k g hk
theorem xtab_ok : xtab.ok Tryz.prog :=
  xtab_cons (fun v w => by rw [run_callFunc_extern Tryz.func108 (by decide +kernel) (by kernel_rfl) (by kernel_rfl) (e := Extern.AbiNoEscape.same) (by kernel_rfl)]; rfl) <|
  xtab_nil
theorem mixed : Tryz.prog.follows .mixedOrders = true := by kernel_rfl
end Go.Proofs.YtnfmfofialoioaaGreatDoor
