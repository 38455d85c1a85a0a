/-
  The functions that the closed runs enter.
-/
import Derived.Test.YtjhlodbhchdkbaaGreatDoorRows
import Derived.Test.YtjhlodbhchdkbaaGreatDoorEvM7
import Derived.Laws.Externs
import Derived.Lib.MakeNoZero
namespace Go.Proofs.YtjhlodbhchdkbaaGreatDoor
open Go Go.Ev Go.RowKit

theorem aw_enter {f : Nat} {fn : Func} (hf : Tryz.prog.funcs[f]? = some fn) (hn : (fn.name == "runtime.NumGoroutine") = false) (hb : fn.body.isNone = false) : Tryz.prog.funcs[f]? = some fn ∧ ∀ args w, (callFunc f args).run Tryz.prog w = .ok (.enter f args) w :=
  ⟨hf, fun args w => by
    have hn' : ¬ fn.name = "runtime.NumGoroutine" := fun e => by rw [e] at hn; exact absurd hn (by decide)
    have hb' : ¬ fn.body = none := fun e => by rw [e] at hb; cases hb
    simp [callFunc, hf, hn', hb']⟩
noncomputable def awTab : Tab := [(4, Tryz.f4),
  (9, Tryz.f9),
  (11, Tryz.f11),
  (10, Tryz.f10),
  (35, Tryz.f35),
  (34, Tryz.f34),
  (21, Tryz.f21),
  (22, Tryz.f22),
  (23, Tryz.f23),
  (24, Tryz.f24),
  (25, Tryz.f25),
  (57, Tryz.f57),
  (53, Tryz.f53),
  (54, Tryz.f54),
  (55, Tryz.f55),
  (56, Tryz.f56),
  (31, Tryz.f31),
  (32, Tryz.f32),
  (33, Tryz.f33),
  (36, Tryz.f36),
  (37, Tryz.f37),
  (38, Tryz.f38),
  (39, Tryz.f39),
  (40, Tryz.f40),
  (41, Tryz.f41),
  (73, Tryz.f73),
  (74, Tryz.f74),
  (75, Tryz.f75),
  (76, Tryz.f76),
  (50, Tryz.f50),
  (51, Tryz.f51),
  (52, Tryz.f52),
  (58, Tryz.f58),
  (59, Tryz.f59),
  (60, Tryz.f60),
  (61, Tryz.f61),
  (62, Tryz.f62),
  (102, Tryz.f102),
  (103, Tryz.f103),
  (72, Tryz.f72),
  (78, Tryz.f78),
  (79, Tryz.f79),
  (104, Tryz.f104),
  (105, Tryz.f105),
  (106, Tryz.f106),
  (107, Tryz.f107),
  (120, Tryz.f120)]
theorem awtab_nil : Tab.ok Tryz.prog [] := fun k fn h => by cases h
theorem awtab_cons {f : Nat} {fn : Func} {t : Tab} (h : Tryz.prog.funcs[f]? = some fn ∧ ∀ args w, (callFunc f args).run Tryz.prog w = .ok (.enter f args) w) (ht : Tab.ok Tryz.prog t) : Tab.ok Tryz.prog ((f, fn) :: t) := fun k g hk => by
  simp only [Tab.find] at hk
  split at hk
  · rename_i e
    cases hk
    rw [← Nat.eq_of_beq_eq_true e]
    exact h
  · exact ht k g hk
theorem awtab_ok : awTab.ok Tryz.prog :=
  awtab_cons (aw_enter Tryz.func4 (by decide +kernel) (by kernel_rfl)) <|
  awtab_cons (aw_enter Tryz.func9 (by decide +kernel) (by kernel_rfl)) <|
  awtab_cons (aw_enter Tryz.func11 (by decide +kernel) (by kernel_rfl)) <|
  awtab_cons (aw_enter Tryz.func10 (by decide +kernel) (by kernel_rfl)) <|
  awtab_cons (aw_enter Tryz.func35 (by decide +kernel) (by kernel_rfl)) <|
  awtab_cons (aw_enter Tryz.func34 (by decide +kernel) (by kernel_rfl)) <|
  awtab_cons (aw_enter Tryz.func21 (by decide +kernel) (by kernel_rfl)) <|
  awtab_cons (aw_enter Tryz.func22 (by decide +kernel) (by kernel_rfl)) <|
  awtab_cons (aw_enter Tryz.func23 (by decide +kernel) (by kernel_rfl)) <|
  awtab_cons (aw_enter Tryz.func24 (by decide +kernel) (by kernel_rfl)) <|
  awtab_cons (aw_enter Tryz.func25 (by decide +kernel) (by kernel_rfl)) <|
  awtab_cons (aw_enter Tryz.func57 (by decide +kernel) (by kernel_rfl)) <|
  awtab_cons (aw_enter Tryz.func53 (by decide +kernel) (by kernel_rfl)) <|
  awtab_cons (aw_enter Tryz.func54 (by decide +kernel) (by kernel_rfl)) <|
  awtab_cons (aw_enter Tryz.func55 (by decide +kernel) (by kernel_rfl)) <|
  awtab_cons (aw_enter Tryz.func56 (by decide +kernel) (by kernel_rfl)) <|
  awtab_cons (aw_enter Tryz.func31 (by decide +kernel) (by kernel_rfl)) <|
  awtab_cons (aw_enter Tryz.func32 (by decide +kernel) (by kernel_rfl)) <|
  awtab_cons (aw_enter Tryz.func33 (by decide +kernel) (by kernel_rfl)) <|
  awtab_cons (aw_enter Tryz.func36 (by decide +kernel) (by kernel_rfl)) <|
  awtab_cons (aw_enter Tryz.func37 (by decide +kernel) (by kernel_rfl)) <|
  awtab_cons (aw_enter Tryz.func38 (by decide +kernel) (by kernel_rfl)) <|
  awtab_cons (aw_enter Tryz.func39 (by decide +kernel) (by kernel_rfl)) <|
  awtab_cons (aw_enter Tryz.func40 (by decide +kernel) (by kernel_rfl)) <|
  awtab_cons (aw_enter Tryz.func41 (by decide +kernel) (by kernel_rfl)) <|
  awtab_cons (aw_enter Tryz.func73 (by decide +kernel) (by kernel_rfl)) <|
  awtab_cons (aw_enter Tryz.func74 (by decide +kernel) (by kernel_rfl)) <|
  awtab_cons (aw_enter Tryz.func75 (by decide +kernel) (by kernel_rfl)) <|
  awtab_cons (aw_enter Tryz.func76 (by decide +kernel) (by kernel_rfl)) <|
  awtab_cons (aw_enter Tryz.func50 (by decide +kernel) (by kernel_rfl)) <|
  awtab_cons (aw_enter Tryz.func51 (by decide +kernel) (by kernel_rfl)) <|
  awtab_cons (aw_enter Tryz.func52 (by decide +kernel) (by kernel_rfl)) <|
  awtab_cons (aw_enter Tryz.func58 (by decide +kernel) (by kernel_rfl)) <|
  awtab_cons (aw_enter Tryz.func59 (by decide +kernel) (by kernel_rfl)) <|
  awtab_cons (aw_enter Tryz.func60 (by decide +kernel) (by kernel_rfl)) <|
  awtab_cons (aw_enter Tryz.func61 (by decide +kernel) (by kernel_rfl)) <|
  awtab_cons (aw_enter Tryz.func62 (by decide +kernel) (by kernel_rfl)) <|
  awtab_cons (aw_enter Tryz.func102 (by decide +kernel) (by kernel_rfl)) <|
  awtab_cons (aw_enter Tryz.func103 (by decide +kernel) (by kernel_rfl)) <|
  awtab_cons (aw_enter Tryz.func72 (by decide +kernel) (by kernel_rfl)) <|
  awtab_cons (aw_enter Tryz.func78 (by decide +kernel) (by kernel_rfl)) <|
  awtab_cons (aw_enter Tryz.func79 (by decide +kernel) (by kernel_rfl)) <|
  awtab_cons (aw_enter Tryz.func104 (by decide +kernel) (by kernel_rfl)) <|
  awtab_cons (aw_enter Tryz.func105 (by decide +kernel) (by kernel_rfl)) <|
  awtab_cons (aw_enter Tryz.func106 (by decide +kernel) (by kernel_rfl)) <|
  awtab_cons (aw_enter Tryz.func107 (by decide +kernel) (by kernel_rfl)) <|
  awtab_cons (aw_enter Tryz.func120 (by decide +kernel) (by kernel_rfl)) <|
  awtab_nil
noncomputable def awXtab : XTab := []
theorem awXtab_nil : XTab.ok Tryz.prog [] := fun k fn h => by cases h
theorem awXtab_cons {f : Nat} {e : XE} {t : XTab} (h : e.ok Tryz.prog f) (ht : XTab.ok Tryz.prog t) : XTab.ok Tryz.prog ((f, e) :: t) := fun k g hk => by
  simp only [XTab.find] at hk
  split at hk
  · rename_i e
    cases hk
    rw [← Nat.eq_of_beq_eq_true e]
    exact h
  · exact ht k g hk
theorem awXtab_ok : awXtab.ok Tryz.prog :=
  awXtab_nil
theorem awMixed : Tryz.prog.follows .mixedOrders = true := by kernel_rfl
end Go.Proofs.YtjhlodbhchdkbaaGreatDoor
