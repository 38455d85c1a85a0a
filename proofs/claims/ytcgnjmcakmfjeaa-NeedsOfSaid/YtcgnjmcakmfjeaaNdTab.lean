/-
  The functions that the closed runs enter.
-/
import Derived.Test.YtcgnjmcakmfjeaaRows
import Derived.Test.YtcgnjmcakmfjeaaEvS
namespace Go.Proofs.Ytcgnjmcakmfjeaa
open Go Go.Ev Go.RowKit

theorem enter_of {f : Nat} {fn : Func} (hf : Try.prog.funcs[f]? = some fn) (hn : (fn.name == "runtime.NumGoroutine") = false) (hb : fn.body.isNone = false) : Try.prog.funcs[f]? = some fn ∧ ∀ args w, (callFunc f args).run Try.prog w = .ok (.enter f args) w :=
  ⟨hf, fun args w => by
    have hn' : ¬ fn.name = "runtime.NumGoroutine" := fun e => by rw [e] at hn; exact absurd hn (by decide)
    have hb' : ¬ fn.body = none := fun e => by rw [e] at hb; cases hb
    simp [callFunc, hf, hn', hb']⟩
noncomputable def tab : Tab := [(6, Try.f6),
  (8, Try.f8),
  (9, Try.f9),
  (10, Try.f10),
  (11, Try.f11),
  (13, Try.f13),
  (14, Try.f14),
  (17, Try.f17),
  (18, Try.f18),
  (19, Try.f19),
  (20, Try.f20),
  (21, Try.f21),
  (22, Try.f22),
  (23, Try.f23),
  (27, Try.f27),
  (28, Try.f28),
  (29, Try.f29),
  (30, Try.f30),
  (31, Try.f31),
  (37, Try.f37),
  (38, Try.f38),
  (39, Try.f39),
  (40, Try.f40),
  (41, Try.f41),
  (42, Try.f42),
  (43, Try.f43),
  (49, Try.f49),
  (50, Try.f50),
  (51, Try.f51),
  (56, Try.f56),
  (58, Try.f58),
  (59, Try.f59),
  (60, Try.f60),
  (61, Try.f61),
  (62, Try.f62),
  (63, Try.f63),
  (64, Try.f64),
  (67, Try.f67),
  (68, Try.f68),
  (76, Try.f76),
  (77, Try.f77),
  (82, Try.f82),
  (86, Try.f86),
  (87, Try.f87),
  (98, Try.f98)]
theorem tab_nil : Tab.ok Try.prog [] := fun k fn h => by cases h
theorem tab_cons {f : Nat} {fn : Func} {t : Tab} (h : Try.prog.funcs[f]? = some fn ∧ ∀ args w, (callFunc f args).run Try.prog w = .ok (.enter f args) w) (ht : Tab.ok Try.prog t) : Tab.ok Try.prog ((f, fn) :: t) := fun k g hk => by
  simp only [Tab.find] at hk
  split at hk
  · rename_i e
    cases hk
    rw [← Nat.eq_of_beq_eq_true e]
    exact h
  · exact ht k g hk
theorem tab_ok : tab.ok Try.prog :=
  tab_cons (enter_of Try.func6 (by decide +kernel) (by kernel_rfl)) <|
  tab_cons (enter_of Try.func8 (by decide +kernel) (by kernel_rfl)) <|
  tab_cons (enter_of Try.func9 (by decide +kernel) (by kernel_rfl)) <|
  tab_cons (enter_of Try.func10 (by decide +kernel) (by kernel_rfl)) <|
  tab_cons (enter_of Try.func11 (by decide +kernel) (by kernel_rfl)) <|
  tab_cons (enter_of Try.func13 (by decide +kernel) (by kernel_rfl)) <|
  tab_cons (enter_of Try.func14 (by decide +kernel) (by kernel_rfl)) <|
  tab_cons (enter_of Try.func17 (by decide +kernel) (by kernel_rfl)) <|
  tab_cons (enter_of Try.func18 (by decide +kernel) (by kernel_rfl)) <|
  tab_cons (enter_of Try.func19 (by decide +kernel) (by kernel_rfl)) <|
  tab_cons (enter_of Try.func20 (by decide +kernel) (by kernel_rfl)) <|
  tab_cons (enter_of Try.func21 (by decide +kernel) (by kernel_rfl)) <|
  tab_cons (enter_of Try.func22 (by decide +kernel) (by kernel_rfl)) <|
  tab_cons (enter_of Try.func23 (by decide +kernel) (by kernel_rfl)) <|
  tab_cons (enter_of Try.func27 (by decide +kernel) (by kernel_rfl)) <|
  tab_cons (enter_of Try.func28 (by decide +kernel) (by kernel_rfl)) <|
  tab_cons (enter_of Try.func29 (by decide +kernel) (by kernel_rfl)) <|
  tab_cons (enter_of Try.func30 (by decide +kernel) (by kernel_rfl)) <|
  tab_cons (enter_of Try.func31 (by decide +kernel) (by kernel_rfl)) <|
  tab_cons (enter_of Try.func37 (by decide +kernel) (by kernel_rfl)) <|
  tab_cons (enter_of Try.func38 (by decide +kernel) (by kernel_rfl)) <|
  tab_cons (enter_of Try.func39 (by decide +kernel) (by kernel_rfl)) <|
  tab_cons (enter_of Try.func40 (by decide +kernel) (by kernel_rfl)) <|
  tab_cons (enter_of Try.func41 (by decide +kernel) (by kernel_rfl)) <|
  tab_cons (enter_of Try.func42 (by decide +kernel) (by kernel_rfl)) <|
  tab_cons (enter_of Try.func43 (by decide +kernel) (by kernel_rfl)) <|
  tab_cons (enter_of Try.func49 (by decide +kernel) (by kernel_rfl)) <|
  tab_cons (enter_of Try.func50 (by decide +kernel) (by kernel_rfl)) <|
  tab_cons (enter_of Try.func51 (by decide +kernel) (by kernel_rfl)) <|
  tab_cons (enter_of Try.func56 (by decide +kernel) (by kernel_rfl)) <|
  tab_cons (enter_of Try.func58 (by decide +kernel) (by kernel_rfl)) <|
  tab_cons (enter_of Try.func59 (by decide +kernel) (by kernel_rfl)) <|
  tab_cons (enter_of Try.func60 (by decide +kernel) (by kernel_rfl)) <|
  tab_cons (enter_of Try.func61 (by decide +kernel) (by kernel_rfl)) <|
  tab_cons (enter_of Try.func62 (by decide +kernel) (by kernel_rfl)) <|
  tab_cons (enter_of Try.func63 (by decide +kernel) (by kernel_rfl)) <|
  tab_cons (enter_of Try.func64 (by decide +kernel) (by kernel_rfl)) <|
  tab_cons (enter_of Try.func67 (by decide +kernel) (by kernel_rfl)) <|
  tab_cons (enter_of Try.func68 (by decide +kernel) (by kernel_rfl)) <|
  tab_cons (enter_of Try.func76 (by decide +kernel) (by kernel_rfl)) <|
  tab_cons (enter_of Try.func77 (by decide +kernel) (by kernel_rfl)) <|
  tab_cons (enter_of Try.func82 (by decide +kernel) (by kernel_rfl)) <|
  tab_cons (enter_of Try.func86 (by decide +kernel) (by kernel_rfl)) <|
  tab_cons (enter_of Try.func87 (by decide +kernel) (by kernel_rfl)) <|
  tab_cons (enter_of Try.func98 (by decide +kernel) (by kernel_rfl)) <|
  tab_nil
theorem mixed : Try.prog.follows .mixedOrders = true := by kernel_rfl
end Go.Proofs.Ytcgnjmcakmfjeaa
