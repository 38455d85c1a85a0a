/-
  Tokens and Bad, the document's own answers; two lists of tokens are one; and the law on readings.
-/
import Derived.Test.YtjiihfdbdbhhaaaTokSr
import Derived.Test.YtjiihfdbdbhhaaaTokAw
import Derived.Deep.QuietTactic
import Derived.BigQuiet
namespace Go.Proofs.Ytjiihfdbdbhhaaa
open Go.RowKit T

theorem scanT_of {l : List UInt8} (h : l.length ≤ 20000) : scanT l = (match (scanN l (skipN l)).2 with | none => ((scanN l (skipN l)).1, 0, 0) | some b => ([], (b : Int), 10)) := by
  unfold scanT
  rw [if_neg (by omega)]
  rcases scanN l (skipN l) with ⟨ts, _ | b⟩ <;> rfl

set_option maxHeartbeats 2000000 in
theorem Tokens_r_any (s : ByteArray) (w : World) (hs : s.size ≤ maxLen) :
    Calls Try.prog 11 #[.string s] w (TokensPost s w) := by
  unfold maxLen at hs
  by_cases h : s.size ≤ 20000
  · have C := scan_r_any s w h
    have HT := scanT_of (l := s.data.toList) (by simp; omega)
    unfold ScanPost at C
    generalize scanN s.data.toList (skipN s.data.toList) = SN at C HT
    obtain ⟨ts, b⟩ := SN
    simp only [] at C HT
    rcases b with _ | b
    · have C := Lib.hid C
      have HT := Lib.hid HT
      go_enter Try.func11, Try.ntmps11
      go_wp2_with fail
      refine C.out.mono ?_
      rintro e w' ⟨A, cap, rfl, ho, hb⟩
      have HO := Lib.hid ho
      clear ho
      simp only [badI]
      go_wp2_with fail
      go_ret2
      refine ⟨A, cap, ?_⟩
      rw [HT.out]
      exact ⟨rfl, HO.out, hb⟩
    · have C := Lib.hid C
      have HT := Lib.hid HT
      go_enter Try.func11, Try.ntmps11
      go_wp2_with fail
      refine C.out.mono ?_
      rintro e w' ⟨A, cap, rfl, ho, hb⟩
      clear ho
      simp only [badI]
      go_wp2_with fail
      go_ret2
      refine ⟨none, 0, ?_⟩
      rw [HT.out]
      exact ⟨rfl, World.ownsRow_nil _ _ _ _, hb⟩
  · have HT := Lib.hid (scanT_long (l := s.data.toList) (by simp; omega))
    go_enter Try.func11, Try.ntmps11
    go_wp2_with fail
    go_ret2
    refine ⟨none, 0, ?_⟩
    rw [HT.out]
    exact ⟨rfl, World.ownsRow_nil _ _ _ _, Below.refl _ _⟩

set_option maxHeartbeats 2000000 in
theorem Bad_r_any (s : ByteArray) (w : World) (hs : s.size ≤ maxLen) :
    Calls Try.prog 13 #[.string s] w fun e w' => e = .returned (.tuple #[.int .i64 (scanT s.data.toList).2.1, .int .i64 (scanT s.data.toList).2.2]) ∧ Below w.heap.size w w' := by
  unfold maxLen at hs
  by_cases h : s.size ≤ 20000
  · have C := scan_r_any s w h
    have HT := scanT_of (l := s.data.toList) (by simp; omega)
    unfold ScanPost at C
    generalize scanN s.data.toList (skipN s.data.toList) = SN at C HT
    obtain ⟨ts, b⟩ := SN
    simp only [] at C HT
    rcases b with _ | b
    all_goals
      have C := Lib.hid C
      have HT := Lib.hid HT
      go_enter Try.func13, Try.ntmps13
      go_wp2_with fail
      refine C.out.mono ?_
      rintro e w' ⟨A, cap, rfl, ho, hb⟩
      clear ho
      simp only [badI]
      go_wp2_with fail
      go_ret2
      rw [HT.out]
      exact ⟨rfl, hb⟩
  · have HT := Lib.hid (scanT_long (l := s.data.toList) (by simp; omega))
    go_enter Try.func13, Try.ntmps13
    go_wp2_with fail
    go_ret2
    rw [HT.out]
    exact ⟨rfl, Below.refl _ _⟩

/-- a slice value that reads as a list of tokens -/
def RdTk (w : World) (A : Option Addr) (ts : List Tk) : Prop :=
  0 < ts.length → ∃ g : Nat, A = some ⟨g, 0, none⟩ ∧ ∀ j u, (tkCells ts)[j]? = some u → w.cell? ⟨g, j, none⟩ = some u
theorem RdTk.of {w : World} {B : Nat} {A : Option Addr} {cap : Nat} {ts : List Tk} (h : w.ownsRow B 33 3 (.slice A ts.length cap) ts.length (tkCells ts)) : RdTk w A ts := by
  intro h0
  rcases h.2 with ⟨_, hz⟩ | ⟨g, cap', cur, hv, _⟩
  · omega
  · have hA : A = some ⟨g, 0, none⟩ := by injection hv
    subst hA
    refine ⟨g, rfl, fun j u hu => ?_⟩
    have := h.cells (g := g) rfl j u hu
    unfold Addr.add at this
    by_cases h : j = 0
    · subst h; simpa using this
    · rw [if_neg h] at this; simpa using this
theorem tk_len (ts : List Tk) : (tkCells ts).length = 3 * ts.length := by
  induction ts with
  | nil => rfl
  | cons t ts ih => simp only [tkCells, List.flatMap_cons, List.length_append, List.length_cons, List.length_nil] at ih ⊢; omega
theorem tk_cell (ts : List Tk) (j : Nat) (hj : j < ts.length) :
    (tkCells ts)[j * 3]? = some (.string ⟨ts[j].kind.toArray⟩) ∧ (tkCells ts)[j * 3 + 1]? = some (.string ⟨ts[j].text.toArray⟩) ∧ (tkCells ts)[j * 3 + 2]? = some (.int .i64 (ts[j].at_ : Int)) := by
  induction ts generalizing j with
  | nil => cases hj
  | cons t ts ih =>
    cases j with
    | zero => exact ⟨rfl, rfl, rfl⟩
    | succ j =>
      have := ih j (by simpa using hj)
      have e : ∀ i, (tkCells (t :: ts))[(j + 1) * 3 + i]? = (tkCells ts)[j * 3 + i]? := by
        intro i
        have : (j + 1) * 3 + i = j * 3 + i + 3 := by omega
        rw [this]; rfl
      have e0 := e 0
      rw [Nat.add_zero, Nat.add_zero] at e0
      rw [e0, e 1, e 2]
      exact this
theorem RdTk.below {w w' : World} {A : Option Addr} {ts : List Tk} (h : RdTk w A ts) (hA : ∀ g, A = some ⟨g, 0, none⟩ → 0 < ts.length → g < w.heap.size) (hb : Below w.heap.size w w') : RdTk w' A ts := by
  intro h0
  obtain ⟨g, hg, hc⟩ := h h0
  exact ⟨g, hg, fun j u hu => (hb.cell (p := ⟨g, j, none⟩) (hA g hg h0)).trans (hc j u hu)⟩

set_option maxHeartbeats 2000000 in
theorem Same_any (A1 A2 : Option Addr) (c1 c2 n : Nat) (ts : List Tk) (w : World) (hn : ts.length = n) (hm : n ≤ 40000) (h1 : RdTk w A1 ts) (h2 : RdTk w A2 ts) :
    Calls Try.prog 14 #[.slice A1 n c1, .slice A2 n c2] w fun e w' => e = .returned (.bool true) ∧ ∃ d, w' = w.drewN d := by
  have HN := Lib.hid hn
  clear hn
  go_enter Try.func14, Try.ntmps14
  go_wp2_with fail
  go_loopw [5] (fun i wr => ∃ k d : Nat, k ≤ n ∧ i = .int .i64 k ∧ wr = w.drewN d) (fun i _ => n - (intOf i).toNat)
  case atStart => exact ⟨0, 0, Nat.zero_le _, rfl, rfl⟩
  case round =>
    obtain ⟨k, d, hk, rfl, rfl⟩ := hrel
    by_cases hlt : k < n
    · obtain ⟨g1, rfl, hc1⟩ := h1 (by rw [HN.out]; omega)
      obtain ⟨g2, rfl, hc2⟩ := h2 (by rw [HN.out]; omega)
      obtain ⟨t0, t1, t2⟩ := tk_cell ts k (by rw [HN.out]; exact hlt)
      have a0 := hc1 _ _ t0
      have a1 := hc1 _ _ t1
      have a2 := hc1 _ _ t2
      have b0 := hc2 _ _ t0
      have b1 := hc2 _ _ t1
      have b2 := hc2 _ _ t2
      clear hc1 hc2 t0 t1 t2
      generalize ts[k]'(by rw [HN.out]; exact hlt) = tk at *
      have z1 : (0 : Int) ≤ (k : Int) := by omega
      have z2 : (k : Int) < (n : Int) := by omega
      go_wp2_with fail
      go_quiet (fail)
      go_wp2_with fail
      go_roundw
      case rel => exact ⟨k + 1, _, by omega, by go_num, rfl⟩
      case measure => simp [intOf]; omega
    · go_wp2_with fail
      go_ret
      exact ⟨rfl, _, rfl⟩

theorem scanT_len (l : List UInt8) : (scanT l).1.length ≤ 20000 := by
  unfold scanT
  split
  · simp
  · rename_i h
    have key : ∀ f L k, (scanF f L k).1.length ≤ L.length - k := by
      intro f
      induction f with
      | zero => intro L k; simp [scanF]
      | succ f ih =>
        intro L k
        unfold scanF
        split
        · rcases hr : readT (L.drop k) with _ | r
          · simp
          · have h1 := readT_size hr
            have h2 := ih L (k + r.size + skipN (L.drop (k + r.size)))
            simp only [List.length_cons]
            omega
        · simp
    have := key (l.length + 1) l (skipN l)
    unfold scanN
    rcases hs : scanF (l.length + 1) l (skipN l) with ⟨ts, _ | b⟩
    · rw [hs] at this
      simp only [] at this ⊢
      omega
    · simp

set_option maxHeartbeats 2000000 in
theorem TokenReads_any (s : ByteArray) (w : World) (hs : s.size ≤ maxLen) :
    Calls Try.prog 3 #[.string s] w fun e w' => e = .returned (.bool true) ∧ Below w.heap.size w w' := by
  have T1 := fun wx => Tokens_any s wx hs
  have T2 := fun wx => Tokens_r_any s wx hs
  have B1 := fun wx => Bad_any s wx hs
  have B2 := fun wx => Bad_r_any s wx hs
  have hlen := scanT_len s.data.toList
  unfold TokensPost at T1 T2
  generalize scanT s.data.toList = R at *
  obtain ⟨ts, b, er⟩ := R
  simp only [] at T1 T2 B1 B2 hlen
  have T1 := Lib.hid T1
  have T2 := Lib.hid T2
  have B1 := Lib.hid B1
  have B2 := Lib.hid B2
  unfold maxLen at hs
  by_cases h : s.size ≤ 40000
  · go_enter Try.func3, Try.ntmps3
    go_wp2_with fail
    refine (T1.out _).mono ?_
    rintro e w1 ⟨A1, c1, rfl, ho1, hb1⟩
    have HO1 := Lib.hid ho1
    clear ho1
    go_wp2_with fail
    refine (T2.out _).mono ?_
    rintro e w2 ⟨A2, c2, rfl, ho2, hb2⟩
    have HO2 := Lib.hid ho2
    clear ho2
    go_wp2_with fail
    refine (B1.out _).mono ?_
    rintro e w3 ⟨rfl, hb3⟩
    go_wp2_with fail
    refine (B2.out _).mono ?_
    rintro e w4 ⟨rfl, hb4⟩
    have hb12 := hb1.trans (hb2.mono hb1.size)
    have hb13 := hb12.trans (hb3.mono hb12.size)
    have hb14 := hb13.trans (hb4.mono hb13.size)
    have R1 := RdTk.of (own_below (own_below (own_below HO1.out hb2) hb3) hb4)
    have R2 := RdTk.of (own_below (own_below HO2.out hb3) hb4)
    have SM := Lib.hid (Same_any A1 A2 c1 c2 ts.length ts w4 rfl (by omega) R1 R2)
    clear R1 R2
    go_wp2_with fail
    refine SM.out.mono ?_
    rintro e w5 ⟨rfl, d, rfl⟩
    go_wp2_with fail
    refine (awake_any _).mono ?_
    rintro e w6 ⟨rfl, hb6⟩
    go_wp2_with fail
    go_ret
    exact ⟨rfl, (below_drewN hb14 d).trans (hb6.mono (below_drewN hb14 d).size)⟩
  · go_enter Try.func3, Try.ntmps3
    go_wp2_with fail
    refine (awake_any _).mono ?_
    rintro e w' ⟨rfl, hb⟩
    go_wp2_with fail
    go_ret
    exact ⟨rfl, hb⟩
end Go.Proofs.Ytjiihfdbdbhhaaa
