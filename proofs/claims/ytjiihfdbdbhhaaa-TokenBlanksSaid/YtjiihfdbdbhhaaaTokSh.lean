/-
  Tokens that came in: a slice of them, few and short.
-/
import Derived.Test.YtjiihfdbdbhhaaaTokRd
import Derived.Test.YtjiihfdbdbhhaaaTokK
namespace Go.Proofs.Ytjiihfdbdbhhaaa
open Go.RowKit T

/-- the tokens that a slice which came in holds: kind, text and place -/
def ArgTk (w : World) (A : Option Addr) (ks : List (ByteArray × ByteArray × Int)) : Prop :=
  0 < ks.length → ∃ b off : Nat, A = some ⟨b, off, none⟩ ∧ b < w.heap.size ∧ ∀ j (hj : j < ks.length),
    w.cell? ⟨b, off + j * 3, none⟩ = some (.string ks[j].1) ∧ w.cell? ⟨b, off + j * 3 + 1, none⟩ = some (.string ks[j].2.1) ∧ w.cell? ⟨b, off + j * 3 + 2, none⟩ = some (.int .i64 ks[j].2.2)

def shortB (ks : List (ByteArray × ByteArray × Int)) (n : Nat) : Bool := ks.all (fun t => decide (t.2.1.size ≤ 400)) && decide (n ≤ 300)
theorem all_take1 {α : Type} {p : α → Bool} {l : List α} {k : Nat} (h : k < l.length) : (l.take (k + 1)).all p = ((l.take k).all p && p l[k]) := by
  rw [List.take_succ_eq_append_getElem h, List.all_append]; simp

theorem all_bad1 {α : Type} {p : α → Bool} {l : List α} {k : Nat} (h : k < l.length) (hp : p l[k] = false) : l.all p = false := by
  rw [Bool.eq_false_iff]
  intro e
  have := List.all_eq_true.1 e l[k] (List.getElem_mem h)
  rw [hp] at this; cases this

set_option maxHeartbeats 1000000 in
theorem short_any (A : Option Addr) (n c : Nat) (ks : List (ByteArray × ByteArray × Int)) (w : World) (hn : ks.length = n) (hm : n ≤ maxLen) (h : ArgTk w A ks) :
    Calls Try.prog 15 #[.slice A n c] w fun e w' => e = .returned (.bool (shortB ks n)) ∧ Below w.heap.size w w' := by
  unfold maxLen at hm
  have HN := Lib.hid hn
  clear hn
  go_enter Try.func15, Try.ntmps15
  go_wp2_with fail
  go_loopw [7] (fun i wr => ∃ k : Nat, k ≤ n ∧ i = .int .i64 k ∧ (ks.take k).all (fun t => decide (t.2.1.size ≤ 400)) = true ∧ Below w.heap.size w wr) (fun i _ => n - (intOf i).toNat)
  case atStart => exact ⟨0, Nat.zero_le _, rfl, rfl, Below.refl _ _⟩
  case round =>
    obtain ⟨k, hk, rfl, hall, hb⟩ := hrel
    have HA := Lib.hid hall
    clear hall
    by_cases hlt : k < n
    · obtain ⟨b, off, rfl, hab, hc⟩ := h (by rw [HN.out]; omega)
      have hlk : k < ks.length := by rw [HN.out]; exact hlt
      obtain ⟨c0, c1, c2⟩ := hc k hlk
      have c0 := (hb.cell (p := ⟨b, off + k * 3, none⟩) hab).trans c0
      have c1 := (hb.cell (p := ⟨b, off + k * 3 + 1, none⟩) hab).trans c1
      have c2 := (hb.cell (p := ⟨b, off + k * 3 + 2, none⟩) hab).trans c2
      have HK := all_take1 (p := fun t : ByteArray × ByteArray × Int => decide (t.2.1.size ≤ 400)) hlk
      have HF := fun (hx : decide (ks[k].2.1.size ≤ 400) = false) => all_bad1 (p := fun t : ByteArray × ByteArray × Int => decide (t.2.1.size ≤ 400)) hlk hx
      clear hc
      generalize ks[k] = tk at *
      have HK := Lib.hid HK
      have HF := Lib.hid HF
      clear hlk
      have hbs := hb.size
      by_cases h400 : tk.2.1.size ≤ 400
      · have h4 : ((tk.2.1.size : Int) ≤ 400) := by omega
        go_wp2_with fail
        go_roundw
        case rel => exact ⟨k + 1, by omega, by go_num, by rw [HK.out, HA.out, decide_eq_true h400]; rfl, hb.alloc hbs _⟩
        case measure => simp [intOf]; omega
      · have h4 : ¬ ((tk.2.1.size : Int) ≤ 400) := by omega
        go_wp2_with fail
        go_ret
        exact ⟨by rw [shortB, HF.out (decide_eq_false h400)]; rfl, hb.alloc hbs _⟩
    · have F := Lib.hid (show ks.all (fun t => decide (t.2.1.size ≤ 400)) = true by
        have := HA.out
        rwa [List.take_of_length_le (by rw [HN.out]; omega)] at this)
      by_cases h300 : n ≤ 300
      · have h3 : (n : Int) ≤ 300 := by omega
        go_wp2_with fail
        go_ret
        exact ⟨by rw [shortB, F.out, decide_eq_true h300]; rfl, hb⟩
      · have h3 : ¬ (n : Int) ≤ 300 := by omega
        go_wp2_with fail
        go_ret
        exact ⟨by rw [shortB, F.out, decide_eq_false h300]; rfl, hb⟩
end Go.Proofs.Ytjiihfdbdbhhaaa
