/-
  The layers of operations: a name of the table is told by a run, any other one stands for all others.
-/
import Derived.Test.YtcgnjmcakmfjeaaNdAw
import Derived.WalkKit
import Derived.WalkSpells
import Derived.WalkLawsBesides
import Derived.Lib.Hide
namespace Go.Proofs.Ytcgnjmcakmfjeaa
open Go Go.Ev Go.RowKit

def opNames : List (List UInt8 × Int) := [
  ([43], 0),
  ([45], 0),
  ([42], 0),
  ([100, 105, 118], 0),
  ([109, 111, 100], 0),
  ([126], 0),
  ([60], 0),
  ([61, 60], 0),
  ([62], 0),
  ([62, 61], 0),
  ([61, 61], 0),
  ([92, 61], 0),
  ([108, 97, 98, 101, 108], 0),
  ([97, 114, 105, 116, 121], 0),
  ([119, 105, 100, 116, 104], 0),
  ([100, 111, 116], 0),
  ([104, 97, 115], 0),
  ([112, 97, 114, 116, 115], 0),
  ([97, 100, 106, 111, 105, 110], 0),
  ([109, 97, 107, 101], 0),
  ([119, 97, 105, 116], 0),
  ([115, 104, 111, 119], 0),
  ([110, 111, 109, 97, 116, 99, 104], 0),
  ([100, 111, 109, 97, 105, 110], 0),
  ([112, 111, 115, 116], 0),
  ([98, 121, 110, 101, 101, 100], 2),
  ([110, 101, 101, 100], 2),
  ([110, 101, 119, 110, 97, 109, 101], 4),
  ([99, 104, 117, 110, 107], 4),
  ([118, 105, 101, 119], 4),
  ([112, 111, 114, 116], 5),
  ([115, 101, 110, 100], 5),
  ([100, 101, 116], 6),
  ([99, 101, 108, 108], 6),
  ([103, 101, 116], 6),
  ([115, 101, 116], 6),
  ([115, 119, 97, 112], 6),
  ([108, 111, 99, 107], 6),
  ([116, 97, 107, 101], 6),
  ([103, 105, 118, 101], 6),
  ([100, 105, 99, 116], 6),
  ([97, 114, 114, 97, 121], 6),
  ([112, 117, 116], 6),
  ([114, 101, 109, 111, 118, 101], 6),
  ([107, 101, 121, 115], 6),
  ([112, 114, 105, 111, 114, 105, 116, 121], 6),
  ([115, 101, 108, 102], 6),
  ([115, 112, 97, 99, 101], 7),
  ([97, 115, 107], 7),
  ([99, 111, 109, 109, 105, 116], 7),
  ([99, 108, 111, 110, 101], 7),
  ([109, 101, 114, 103, 101], 7),
  ([105, 110, 106, 101, 99, 116], 7),
  ([107, 105, 108, 108], 7),
  ([102, 97, 105, 108], 8)]
def opMark : ByteArray := ⟨#[
  255, 255, 255, 43, 255, 45, 255, 42, 255, 100, 105, 118, 255, 109, 111, 100, 255, 126, 255, 60, 255, 61, 60, 255, 62, 255, 62, 61, 255, 61, 61, 255, 92, 61, 255, 108, 97, 98, 101, 108,
  255, 97, 114, 105, 116, 121, 255, 119, 105, 100, 116, 104, 255, 100, 111, 116, 255, 104, 97, 115, 255, 112, 97, 114, 116, 115, 255, 97, 100, 106, 111, 105, 110, 255, 109, 97, 107, 101, 255, 119,
  97, 105, 116, 255, 115, 104, 111, 119, 255, 110, 111, 109, 97, 116, 99, 104, 255, 100, 111, 109, 97, 105, 110, 255, 112, 111, 115, 116, 255, 98, 121, 110, 101, 101, 100, 255, 110, 101, 101, 100,
  255, 110, 101, 119, 110, 97, 109, 101, 255, 99, 104, 117, 110, 107, 255, 118, 105, 101, 119, 255, 112, 111, 114, 116, 255, 115, 101, 110, 100, 255, 100, 101, 116, 255, 99, 101, 108, 108, 255, 103,
  101, 116, 255, 115, 101, 116, 255, 115, 119, 97, 112, 255, 108, 111, 99, 107, 255, 116, 97, 107, 101, 255, 103, 105, 118, 101, 255, 100, 105, 99, 116, 255, 97, 114, 114, 97, 121, 255, 112, 117,
  116, 255, 114, 101, 109, 111, 118, 101, 255, 107, 101, 121, 115, 255, 112, 114, 105, 111, 114, 105, 116, 121, 255, 115, 101, 108, 102, 255, 115, 112, 97, 99, 101, 255, 97, 115, 107, 255, 99, 111,
  109, 109, 105, 116, 255, 99, 108, 111, 110, 101, 255, 109, 101, 114, 103, 101, 255, 105, 110, 106, 101, 99, 116, 255, 107, 105, 108, 108, 255, 102, 97, 105, 108, 255]⟩
set_option maxRecDepth 100000 in
theorem far_names : farWords opMark = opNames.map (·.1) := by decide +kernel
set_option maxRecDepth 100000 in
theorem hits : opNames.all (fun p => gives Try.prog tab 200 60 10 [.string ⟨⟨p.1⟩⟩] (.tuple #[.int .i64 p.2, .int .i64 0]) && gives Try.prog tab 200 60 11 [.string ⟨⟨p.1⟩⟩] (.tuple #[.int .i64 p.2, .int .i64 0])) = true := by kernel_rfl
set_option maxRecDepth 100000 in
theorem miss : gives Try.prog tab 200 60 10 [.string opMark] (.tuple #[.int .i64 0, .int .i64 5]) = true := by kernel_rfl
set_option maxRecDepth 100000 in
theorem miss_r : gives Try.prog tab 200 60 11 [.string opMark] (.tuple #[.int .i64 0, .int .i64 5]) = true := by kernel_rfl

theorem Of_both (s : ByteArray) : ∃ a b : Int, (∀ w, Calls Try.prog 10 #[.string s] w fun e w' => e = .returned (.tuple #[.int .i64 a, .int .i64 b]) ∧ Below w.heap.size w w') ∧
    ∀ w, Calls Try.prog 11 #[.string s] w fun e w' => e = .returned (.tuple #[.int .i64 a, .int .i64 b]) ∧ Below w.heap.size w w' := by
  by_cases h : s.data.toList ∈ opNames.map (·.1)
  · obtain ⟨p, hp, e⟩ := List.mem_map.1 h
    have := List.all_eq_true.1 hits p hp
    simp only [Bool.and_eq_true] at this
    have es : s = ⟨⟨p.1⟩⟩ := by
      obtain ⟨⟨l⟩⟩ := s
      exact congrArg (fun l => (⟨⟨l⟩⟩ : ByteArray)) e.symm
    subst es
    have hn : isMark ⟨⟨p.1⟩⟩ = false := by
      have : opNames.all (fun p => !isMark ⟨⟨p.1⟩⟩) = true := by decide +kernel
      simpa using List.all_eq_true.1 this p hp
    have ha : [Value.string ⟨⟨p.1⟩⟩].all (plainB 3) = true := by simp [plainB, leafB, hn]
    exact ⟨p.2, 0, fun w => run_closed mixed tab_ok (args := [.string ⟨⟨p.1⟩⟩]) ha rfl this.1 w, fun w => run_closed mixed tab_ok (args := [.string ⟨⟨p.1⟩⟩]) ha rfl this.2 w⟩
  · have hl := one_mark (m := opMark) (s := s) (by decide +kernel) (fun c hc e => h (by rw [← far_names, e]; exact hc))
    exact ⟨0, 5, fun w => run_rel mixed tab_ok hl rfl miss w, fun w => run_rel mixed tab_ok hl rfl miss_r w⟩
end Go.Proofs.Ytcgnjmcakmfjeaa
