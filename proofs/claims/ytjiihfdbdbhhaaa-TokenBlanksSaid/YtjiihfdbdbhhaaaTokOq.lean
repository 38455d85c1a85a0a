/-
  One quoted text, char or sign: the document's own answer.
-/
import Derived.Test.YtjiihfdbdbhhaaaTokOd
import Derived.Test.YtjiihfdbdbhhaaaTokP
namespace Go.Proofs.Ytjiihfdbdbhhaaa
open Go.RowKit T

theorem quoteT_qV (kind : List UInt8) (most : Nat) (m : UInt8) (r : List UInt8) (k : Nat) :
    (∃ (t : List UInt8) (n : Nat), qpar m r = some (t, n) ∧ qV (qpar m r) most k = .tuple #[.string ⟨t.toArray⟩, .int .i64 ((k : Int) + 1 + (n : Int)), .bool (decide (t.length ≤ most))] ∧ quoteT kind most m r = if t.length ≤ most then some ⟨kind, t, n + 1⟩ else none) ∨
    (qV (qpar m r) most k = .tuple #[.string ⟨#[]⟩, .int .i64 (k : Int), .bool false] ∧ quoteT kind most m r = none) := by
  rcases h : qpar m r with _ | ⟨t, n⟩
  · exact .inr ⟨rfl, by rw [quoteT, h]⟩
  · exact .inl ⟨t, n, rfl, rfl, by rw [quoteT, h]⟩
/-- what is handed back of a quoted one, in one form -/
theorem quote_form (kind : List UInt8) (most : Nat) (m : UInt8) (r : List UInt8) (k : Nat) :
    ∃ (T : ByteArray) (E : Int) (B : Bool), qV (qpar m r) most k = .tuple #[.string T, .int .i64 E, .bool B] ∧ ∀ K : ByteArray, K.data.toList = kind → OneR (quoteT kind most m r) k K T (k : Int) E B := by
  rcases quoteT_qV kind most m r k with ⟨t, n, _, h2, h3⟩ | ⟨h2, h3⟩
  · refine ⟨_, _, _, h2, fun K hK => ?_⟩
    by_cases h : t.length ≤ most
    · rw [if_pos h] at h3
      rw [decide_eq_true h]
      exact OneR.yes (T := ⟨t.toArray⟩) h3 hK rfl (by omega)
    · rw [if_neg h] at h3
      rw [decide_eq_false h]
      exact OneR.no h3 rfl
  · exact ⟨_, _, _, h2, fun K _ => OneR.no h3 rfl⟩

set_option maxHeartbeats 4000000 in
set_option maxRecDepth 100000 in
theorem one_quote (s : ByteArray) (k : Nat) (i : Int) (w : World) (hs : s.size ≤ 100000) (hi : i = (k : Int)) (hlt : k < s.size) (ho : Other s k hlt) (q1 : ((s[k].toNat : Int) == 39) = true) :
    Calls Try.prog 59 #[.string s, .int .i64 i] w (OnePost (quoteT kAtom 60 s[k] (s.data.toList.drop (k + 1))) k w) := by
  subst hi
  obtain ⟨hl, hd, _⟩ := ho
  obtain ⟨hu, hlo⟩ := notLetter hl
  clear hl
  have QC := fun wx => quote_any s k 60 (k : Int) 60 s[k] wx hs rfl rfl hlt rfl (by rw [eq_of_beq (beq_b _ 39 39 rfl _ q1)]; decide)
  obtain ⟨T, E, B, hq, hR⟩ := quote_form kAtom 60 s[k] (s.data.toList.drop (k + 1)) k
  rw [hq] at QC
  have QC := Lib.hid QC
  have HR := Lib.hid hR
  clear hq hR
  go_enter Try.func59, Try.ntmps59
  go_wp2_with (first | (go_at_call 51; refine (great_r_any _ _).mono ?_; rintro e w' ⟨rfl, rfl⟩) | (go_at_call 53; refine (small_r_any _ _).mono ?_; rintro e w' ⟨rfl, rfl⟩))
  refine (QC.out _).mono ?_
  rintro e w' ⟨rfl, rfl⟩
  go_wp2_with fail
  go_returns
  exact ⟨_, _, _, _, _, rfl, ((Below.refl _ _).alloc (Nat.le_refl _) _).alloc (by simp) _, HR.out _ rfl⟩

set_option maxHeartbeats 4000000 in
set_option maxRecDepth 100000 in
theorem one_text (s : ByteArray) (k : Nat) (i : Int) (w : World) (hs : s.size ≤ 100000) (hi : i = (k : Int)) (hlt : k < s.size) (ho : Other s k hlt) (q2 : ((s[k].toNat : Int) == 34) = true) :
    Calls Try.prog 59 #[.string s, .int .i64 i] w (OnePost (quoteT kText 200 s[k] (s.data.toList.drop (k + 1))) k w) := by
  subst hi
  obtain ⟨hl, hd, _⟩ := ho
  obtain ⟨hu, hlo⟩ := notLetter hl
  clear hl
  have q1 : ((s[k].toNat : Int) == 39) = false := by
    simp only [beq_iff_eq] at q2
    simp; omega
  have QC := fun wx => quote_any s k 200 (k : Int) 200 s[k] wx hs rfl rfl hlt rfl (by rw [eq_of_beq (beq_b _ 34 34 rfl _ q2)]; decide)
  obtain ⟨T, E, B, hq, hR⟩ := quote_form kText 200 s[k] (s.data.toList.drop (k + 1)) k
  rw [hq] at QC
  have QC := Lib.hid QC
  have HR := Lib.hid hR
  clear hq hR
  go_enter Try.func59, Try.ntmps59
  go_wp2_with (first | (go_at_call 51; refine (great_r_any _ _).mono ?_; rintro e w' ⟨rfl, rfl⟩) | (go_at_call 53; refine (small_r_any _ _).mono ?_; rintro e w' ⟨rfl, rfl⟩))
  refine (QC.out _).mono ?_
  rintro e w' ⟨rfl, rfl⟩
  go_wp2_with fail
  go_returns
  exact ⟨_, _, _, _, _, rfl, ((Below.refl _ _).alloc (Nat.le_refl _) _).alloc (by simp) _, HR.out _ rfl⟩

set_option maxHeartbeats 4000000 in
set_option maxRecDepth 100000 in
theorem one_char (s : ByteArray) (k : Nat) (i : Int) (w : World) (hs : s.size ≤ 100000) (hi : i = (k : Int)) (hlt : k < s.size) (ho : Other s k hlt) (q3 : ((s[k].toNat : Int) == 38) = true) :
    Calls Try.prog 59 #[.string s, .int .i64 i] w (OnePost (charT (s.data.toList.drop (k + 1))) k w) := by
  subst hi
  obtain ⟨hl, hd, _⟩ := ho
  obtain ⟨hu, hlo⟩ := notLetter hl
  clear hl
  have q1 : ((s[k].toNat : Int) == 39) = false := by
    simp only [beq_iff_eq] at q3
    simp; omega
  have q2 : ((s[k].toNat : Int) == 34) = false := by
    simp only [beq_iff_eq] at q3
    simp; omega
  have q4 : ((s[k].toNat : Int) == 126) = false := by
    simp only [beq_iff_eq] at q3
    simp; omega
  have QC := Lib.hid (fun wx => char_any s k (k : Int) wx hs rfl hlt)
  go_enter Try.func59, Try.ntmps59
  go_wp2_with (first | (go_at_call 51; refine (great_r_any _ _).mono ?_; rintro e w' ⟨rfl, rfl⟩) | (go_at_call 53; refine (small_r_any _ _).mono ?_; rintro e w' ⟨rfl, rfl⟩) | (go_at_call 80; refine (digit_r_any _ _).mono ?_; rintro e w' ⟨rfl, rfl⟩))
  refine (QC.out _).mono ?_
  rintro e w1 ⟨K, T, P, E, B, rfl, hb, hR⟩
  have HR := Lib.hid hR
  clear hR
  obtain ⟨hc, hf⟩ := bcell hb
  have c0 := hc w.heap.size 0 (by simp; omega)
  have c1 := hc w.heap.size 1 (by simp; omega)
  have c2 := hc w.heap.size 2 (by simp; omega)
  have f0 := hf w.heap.size 0 (by simp; omega)
  have f1 := hf w.heap.size 1 (by simp; omega)
  have f2 := hf w.heap.size 2 (by simp; omega)
  simp [go_sem] at c0 c1 c2 f0 f1 f2
  clear hc hf
  go_wp2_with fail
  try simp only [Exit.inBlock, Exit.then]
  refine bodyPost_ret (by simp [results, Try.results59, go_sem, c0, c1, c2]; try rfl) rfl ?_
  exact ⟨_, _, _, _, _, rfl, (((((((Below.refl _ _).alloc (Nat.le_refl _) _).alloc (by simp) _).trans (hb.mono (by simp; omega))).setCell (Nat.le_refl _) _).setCell (Nat.le_refl _) _).setCell (Nat.le_refl _) _), HR.out⟩
end Go.Proofs.Ytjiihfdbdbhhaaa
