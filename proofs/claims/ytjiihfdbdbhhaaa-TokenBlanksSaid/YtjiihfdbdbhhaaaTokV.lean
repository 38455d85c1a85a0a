/-
  The reader of what stands in quotes, of the program: a closure.
-/
import Derived.Test.YtjiihfdbdbhhaaaTokU
import Derived.Test.YtjiihfdbdbhhaaaTokBld
import Derived.Lib.BufferRead
import Derived.Handy
namespace Go.Proofs.Ytjiihfdbdbhhaaa
open Go.RowKit T

set_option maxHeartbeats 400000 in
theorem quoted_p_any (k : ByteArray) (m : Int) (w : World) :
    Calls Try.prog 74 #[.string k, .int .i64 m] w fun e w' => e = .returned (.func (.func 88) #[] #[.pointer (some ⟨w.heap.size + 1, 0, none⟩), .pointer (some ⟨w.heap.size, 0, none⟩)]) ∧ (w.alloc (.cells #[.string k] 9)).alloc (.cells #[.int .i64 m] 3) = w' := by
  go_enter Try.func74, Try.ntmps74
  go_wp2_with fail
  go_ret
  exact ⟨rfl, rfl⟩

/-- the bytes that a row of the call's own holds, as a string -/
theorem conv_own {w : World} {B : Nat} {A : Option Addr} {cap : Nat} {M : List UInt8} (h : w.ownsRow B 5 1 (.slice A M.length cap) M.length (Lib.byteCells M)) :
    (convert 42 9 (.slice A M.length cap)).run Try.prog w = .ok (.string ⟨M.toArray⟩) w := by
  rcases Nat.eq_zero_or_pos M.length with h0 | h0
  · have hM : M = [] := List.eq_nil_of_length_eq_zero h0
    subst hM
    rcases A with _ | a
    · exact Lib.run_convert_nil_bytes (P := Try.prog) w 42 9 5 cap Try.underlying42 Try.underlying5 Try.underlying9
    · exact run_convert_bytes_back (P := Try.prog) w 42 9 5 a cap [] Try.underlying42 Try.underlying5 Try.underlying9 (fun j hj => by simp at hj)
  · obtain ⟨g, hA⟩ : ∃ g, A = some ⟨g, 0, none⟩ := by
      rcases h.2 with ⟨_, hz⟩ | ⟨g, cap', cur, hv, _⟩
      · omega
      · exact ⟨g, by injection hv⟩
    subst hA
    refine run_convert_bytes_back (P := Try.prog) w 42 9 5 ⟨g, 0, none⟩ cap M Try.underlying42 Try.underlying5 Try.underlying9 (fun j hj => ?_)
    exact h.cells (g := g) rfl j _ (by simp [Lib.byteCells, hj])

theorem bcell_at {B : Nat} {W w1 : World} (hb : Below B W w1) : (∀ b o, b < B → w1.cell? ⟨b, o, none⟩ = W.cell? ⟨b, o, none⟩) ∧ (∀ b o, b < B → w1.frozen? ⟨b, o, none⟩ = W.frozen? ⟨b, o, none⟩) :=
  ⟨fun b o h => hb.cell (p := ⟨b, o, none⟩) h, fun b o h => hb.frozen (p := ⟨b, o, none⟩) h⟩

def qJoin (M : List UInt8) (d : Nat) (o : Option (List UInt8 × Nat)) : Option (List UInt8 × Nat) := o.map fun p => (M ++ p.1, p.2 + d)
theorem qJoin_step (M : List UInt8) (d : Nat) (c : UInt8) (n : Nat) (o : Option (List UInt8 × Nat)) : qJoin M d (o.map fun p => (c :: p.1, p.2 + n)) = qJoin (M ++ [c]) (d + n) o := by
  rcases o with _ | p
  · rfl
  · simp [qJoin]; omega
def quoteOf (k : List UInt8) (most : Nat) (o : Option (List UInt8 × Nat)) : Option Rd := match o with
  | some (t, n) => if t.length ≤ most then some ⟨k, t, n + 1⟩ else none
  | none => none
theorem quoteT_of (k : List UInt8) (most : Nat) (m : UInt8) (r : List UInt8) : quoteT k most m r = quoteOf k most (qpar m r) := by
  unfold quoteT quoteOf
  rfl
theorem quoteOf_long (k : List UInt8) (most : Nat) (M : List UInt8) (d : Nat) (o : Option (List UInt8 × Nat)) (h : most < M.length) : quoteOf k most (qJoin M d o) = none := by
  rcases o with _ | p
  · rfl
  · simp only [quoteOf, qJoin, Option.map_some]
    rw [if_neg]
    simp; omega

set_option maxHeartbeats 4000000 in
theorem quoted1_any (s K : ByteArray) (k0 most : Nat) (i mi : Int) (pm pk : Nat) (m : UInt8) (w : World) (hs : s.size ≤ 100000) (hi : i = (k0 : Int)) (hmi : mi = (most : Int)) (hmost : most ≤ 1000) (hlt0 : k0 < s.size) (hm : s[k0] = m)
    (hpm : pm < w.heap.size) (hpk : pk < w.heap.size) (cm : w.cell? ⟨pm, 0, none⟩ = some (.int .i64 mi)) (ck : w.cell? ⟨pk, 0, none⟩ = some (.string K)) :
    Calls Try.prog 88 #[.string s, .int .i64 i, .pointer (some ⟨pm, 0, none⟩), .pointer (some ⟨pk, 0, none⟩)] w fun e w' => e = .returned (rdV (quoteT K.data.toList most m (s.data.toList.drop (k0 + 1))) k0) ∧ Below w.heap.size w w' := by
  subst hi; subst hmi
  obtain ⟨i0, hi, hz0, hz1, hz2⟩ := info_parts byteInfo
  have HM := Lib.hid hm
  have HQ := Lib.hid (quoteT_of K.data.toList most m (s.data.toList.drop (k0 + 1)))
  clear hm
  have hb0 := (Below.refl w.heap.size w).alloc (Nat.le_refl _) (Obj.cells #[Value.string { data := #[] }, Value.string { data := #[] }, Value.int IntKind.i64 0] 33)
  go_enter Try.func88, Try.ntmps88
  go_wp2_with fail
  go_loopw [10, 11] (fun v i wr => ∃ (k : Nat) (M : List UInt8) (A : Option Addr) (cap : Nat), k0 + 1 ≤ k ∧ k ≤ s.size ∧ i = .int .i64 k ∧ v = .slice A M.length cap ∧ wr.ownsRow (w.heap.size + 1) 5 1 (.slice A M.length cap) M.length (Lib.byteCells M) ∧ M.length ≤ k ∧ qpar m (s.data.toList.drop (k0 + 1)) = qJoin M (k - (k0 + 1)) (qpar m (s.data.toList.drop k)) ∧ Below (w.heap.size + 1) (w.alloc (Obj.cells #[Value.string { data := #[] }, Value.string { data := #[] }, Value.int IntKind.i64 0] 33)) wr) (fun _ i _ => s.size - (intOf i).toNat)
  case atStart =>
    refine ⟨k0 + 1, [], none, 0, Nat.le_refl _, by omega, by go_num, rfl, ?_, by simp, ?_, Below.refl _ _⟩
    · exact World.ownsRow_nil _ _ _ _
    · rcases qpar m (s.data.toList.drop (k0 + 1)) with _ | p <;> simp [qJoin]
  case round =>
    obtain ⟨k, M, A, cap, hk0, hk, rfl, rfl, hown, hMk, hq, hbel⟩ := hrel
    have HO := Lib.hid hown
    have HR := Lib.hid hq
    have hcv := conv_own hown
    have hsz := hbel.size
    simp only [World.size_alloc] at hsz
    obtain ⟨hc, hf⟩ := bcell_at hbel
    have c1 := (hc pm 0 (by omega)).trans ((World.cell?_alloc_lt w _ _ hpm).trans cm)
    have c2 := (hc pk 0 (by omega)).trans ((World.cell?_alloc_lt w _ _ hpk).trans ck)
    have r0 := hc w.heap.size 0 (by omega)
    have r1 := hc w.heap.size 1 (by omega)
    have r2 := hc w.heap.size 2 (by omega)
    have f0 := hf w.heap.size 0 (by omega)
    have f1 := hf w.heap.size 1 (by omega)
    have f2 := hf w.heap.size 2 (by omega)
    simp [World.cell?_alloc_new, World.frozen?_alloc_new] at r0 r1 r2 f0 f1 f2
    clear hown hq hc hf
    by_cases hlt : k < s.size
    · by_cases hM : M.length ≤ most
      · rcases q1 : ((s[k].toNat : Int) == (s[k0].toNat : Int)) with _ | _
        · have hx : (s[k] == m) = false := beq_b _ m _ (by rw [HM.out]) _ q1
          have hD := drop1 s k hlt
          have hp := qpar_step m s[k] (s.data.toList.drop (k + 1)) hx
          rw [← hD] at hp
          have hle := ptB_le m (s.data.toList.drop k)
          have C := readPart_any (s.extract k s.size) m (s[k0].toNat : Int) wr (by rw [HM.out]) (by simp; omega) (by simp; omega)
          rw [Lib.extract_to_end] at C
          generalize ptB m (s.data.toList.drop k) = ch at C hp hle
          obtain ⟨u, n⟩ := ch
          simp only [List.length_drop] at C hp hle
          have C := Lib.hid C
          rcases Nat.eq_zero_or_pos n with h0 | h0
          · subst h0
            have F := Lib.hid (show quoteT K.data.toList most m (s.data.toList.drop (k0 + 1)) = none by
              rw [HQ.out, HR.out, hp]; rfl)
            clear hp hD hx
            go_wp2_with fail
            refine C.out.mono ?_
            rintro e w' ⟨rfl, rfl⟩
            go_wp2_with fail
            try simp only [Exit.inBlock, Exit.then]
            refine bodyPost_ret (by simp [results, Try.results88, go_sem, r0, r1, r2]; try rfl) rfl ?_
            rw [F.out]
            exact ⟨rfl, (((hb0.trans (hbel.mono (by omega))).setCell (Nat.le_refl _) _).setCell (Nat.le_refl _) _).setCell (Nat.le_refl _) _⟩
          · have z : ((n : Int) == 0) = false := by simp; omega
            have NX := Lib.hid (show qpar m (s.data.toList.drop (k0 + 1)) = qJoin (M ++ [u]) (k + n - (k0 + 1)) (qpar m (s.data.toList.drop (k + n))) by
              rw [HR.out, hp, if_neg (by simp; omega), qJoin_step, List.drop_drop]
              congr 1; omega)
            obtain ⟨hle1, hle2⟩ := hle
            have hkn : k + n ≤ s.size := by simp at hle2; omega
            clear hp hD hx hle2
            go_wp2_with fail
            refine C.out.mono ?_
            rintro e w' ⟨rfl, rfl⟩
            go_wp2_with (at_builtin; refine wpList_append_own _ rfl _ _ 42 rfl (w.heap.size + 1) 5 i0 (.int .u8 0) 1 1 Try.underlying42 hi hz0 hz1 hz2 rfl (by decide) _ _ _ rfl (HO.out.alloc _) ⟨wr.heap.size, 0, none⟩ 1 1 [.int .u8 (u.toNat : Int)] rfl rfl ?c1 ?c2 ?c3 ?c4 ?c5 ?_)
            case c1 =>
              intro j u hj
              match j, hj with
              | 0, hj => simp at hj; subst hj; simp [Addr.add]
            case c2 => intro u hu; simp at hu; subst hu; rfl
            case c3 => unfold maxLen; omega
            case c4 => omega
            case c5 => simp; omega
            intro v' w2 hown' hgrow _
            obtain ⟨A', cap', hv'⟩ : ∃ A' cap', v' = .slice A' (M ++ [u]).length cap' := by
              rcases hown'.2 with ⟨_, hz⟩ | ⟨g, cap, cur, hv, _⟩
              · omega
              · exact ⟨some ⟨g, 0, none⟩, cap, by rw [hv]; simp⟩
            have hown2 : w2.ownsRow (w.heap.size + 1) 5 1 (.slice A' (M ++ [u]).length cap') (M ++ [u]).length (Lib.byteCells (M ++ [u])) := by
              rw [← hv', ← bc_snoc]
              simpa using hown'
            have hb2 : Below (w.heap.size + 1) (w.alloc (Obj.cells #[Value.string { data := #[] }, Value.string { data := #[] }, Value.int IntKind.i64 0] 33)) w2 :=
              (hbel.alloc (by omega) _).grown hgrow (by simp; omega) (fun k hk => (HO.out.lt k hk).1)
            have OW := Lib.hid hown2
            have VV := Lib.hid hv'
            clear hown' hgrow hown2 hv'
            go_wp2_with fail
            go_roundw
            case rel => exact ⟨k + n, M ++ [u], A', cap', by omega, by omega, by go_num, VV.out, OW.out, by simp; omega, NX.out, hb2⟩
            case measure => simp [intOf]; omega
        · have hx : (s[k] == m) = true := beq_b _ m _ (by rw [HM.out]) _ q1
          have F := Lib.hid (show quoteT K.data.toList most m (s.data.toList.drop (k0 + 1)) = some ⟨K.data.toList, (⟨M.toArray⟩ : ByteArray).data.toList, k + 1 - k0⟩ by
            rw [HQ.out, HR.out, drop1 s k hlt, qpar_mark m _ _ hx]
            simp only [qJoin, quoteOf, Option.map_some, List.append_nil]
            rw [if_pos hM]
            congr 2; omega)
          go_wp2_with fail
          try simp only [Exit.inBlock, Exit.then]
          refine bodyPost_ret (by simp [results, Try.results88, go_sem, r0, r1, r2]; try rfl) rfl ?_
          rw [F.out]
          exact ⟨congrArg _ (rd_mk' (t := ⟨M.toArray⟩) rfl _ _ _ (by omega)), (((hb0.trans (hbel.mono (by omega))).setCell (Nat.le_refl _) _).setCell (Nat.le_refl _) _).setCell (Nat.le_refl _) _⟩
      · have F := Lib.hid (show quoteT K.data.toList most m (s.data.toList.drop (k0 + 1)) = none by
          rw [HQ.out, HR.out]; exact quoteOf_long _ _ _ _ _ (by omega))
        go_wp2_with fail
        try simp only [Exit.inBlock, Exit.then]
        refine bodyPost_ret (by simp [results, Try.results88, go_sem, r0, r1, r2]; try rfl) rfl ?_
        rw [F.out]
        exact ⟨rfl, (((hb0.trans (hbel.mono (by omega))).setCell (Nat.le_refl _) _).setCell (Nat.le_refl _) _).setCell (Nat.le_refl _) _⟩
    · have F := Lib.hid (show quoteT K.data.toList most m (s.data.toList.drop (k0 + 1)) = none by
        rw [HQ.out, HR.out, List.drop_of_length_le (l := s.data.toList) (i := k) (by simp; omega)]; rfl)
      go_wp2_with fail
      try simp only [Exit.inBlock, Exit.then]
      refine bodyPost_ret (by simp [results, Try.results88, go_sem, r0, r1, r2]; try rfl) rfl ?_
      rw [F.out]
      exact ⟨rfl, (((hb0.trans (hbel.mono (by omega))).setCell (Nat.le_refl _) _).setCell (Nat.le_refl _) _).setCell (Nat.le_refl _) _⟩
end Go.Proofs.Ytjiihfdbdbhhaaa
