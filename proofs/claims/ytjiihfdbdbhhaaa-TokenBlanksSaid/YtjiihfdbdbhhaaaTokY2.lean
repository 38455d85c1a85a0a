/-
  The reading of a whole source, of the program: the loop.
-/
import Derived.Test.YtjiihfdbdbhhaaaTokY
namespace Go.Proofs.Ytjiihfdbdbhhaaa
open Go.RowKit T

theorem tk_eq {o : Option Rd} {k : Nat} {K T : ByteArray} {P E : Int} {B : Bool} (h : rdV o k = .tuple #[.agg #[.string K, .string T, .int .i64 P], .int .i64 E, .bool B]) :
    (o = none ∧ B = false) ∨ ∃ r : Rd, o = some r ∧ B = true ∧ K = ⟨r.kind.toArray⟩ ∧ T = ⟨r.text.toArray⟩ ∧ P = (k : Int) ∧ E = (k : Int) + (r.size : Int) := by
  cases o with
  | none =>
    left
    simp [rdV] at h
    exact ⟨rfl, h.2.2.symm ▸ rfl⟩
  | some r =>
    right
    simp [rdV] at h
    obtain ⟨⟨h1, h2, h3⟩, h4, h5⟩ := h
    exact ⟨r, rfl, h5.symm ▸ rfl, h1.symm, h2.symm, h3.symm, h4.symm⟩

theorem scanT_ok {l : List UInt8} {ts : List Tk} (hl : l.length ≤ 20000) (h : scanN l (skipN l) = (ts, none)) : scanT l = (ts, 0, 0) := by
  unfold scanT
  rw [if_neg (by omega), h]
theorem scanT_bad {l : List UInt8} {ts : List Tk} {b : Nat} (hl : l.length ≤ 20000) (h : scanN l (skipN l) = (ts, some b)) : scanT l = ([], (b : Int), 10) := by
  unfold scanT
  rw [if_neg (by omega), h]
theorem scanT_long {l : List UInt8} (hl : 20000 < l.length) : scanT l = ([], -1, 4) := by
  unfold scanT
  rw [if_pos hl]

set_option maxHeartbeats 4000000 in
theorem scan_any (s : ByteArray) (w : World) (hs : s.size ≤ 20000) :
    Calls Try.prog 32 #[.string s] w fun e w' => ∃ (A : Option Addr) (cap : Nat), e = .returned (.tuple #[.slice A (scanT s.data.toList).1.length cap, .int .i64 (scanT s.data.toList).2.1, .int .i64 (scanT s.data.toList).2.2]) ∧
      w'.ownsRow w.heap.size 33 3 (.slice A (scanT s.data.toList).1.length cap) (scanT s.data.toList).1.length (tkCells (scanT s.data.toList).1) ∧ Below w.heap.size w w' := by
  obtain ⟨i0, hi, hz0, hz1, hz2⟩ := info_parts tkInfo
  have HT1 := Lib.hid (fun ts (h : scanN s.data.toList (skipN s.data.toList) = (ts, none)) => scanT_ok (l := s.data.toList) (by simp; omega) h)
  have HT2 := Lib.hid (fun ts b (h : scanN s.data.toList (skipN s.data.toList) = (ts, some b)) => scanT_bad (l := s.data.toList) (by simp; omega) h)
  have hsk := skipN_le s.data.toList
  have hlen : s.data.toList.length = s.size := by simp
  rw [hlen] at hsk
  clear hlen
  go_enter Try.func32, Try.ntmps32
  go_wp2_with fail
  refine (skipGap_any s 0 0 _ (by omega) rfl (by omega)).mono ?_
  rintro e w' ⟨rfl, rfl⟩
  go_wp2_with fail
  go_loopw [2, 5] (fun l i wr => ∃ (k : Nat) (acc : List Tk) (A : Option Addr) (cap : Nat), k ≤ s.size ∧ i = .int .i64 k ∧ l = .slice A acc.length cap ∧ wr.ownsRow w.heap.size 33 3 (.slice A acc.length cap) acc.length (tkCells acc) ∧ acc.length ≤ k ∧
    scanN s.data.toList (skipN s.data.toList) = (acc ++ (scanN s.data.toList k).1, (scanN s.data.toList k).2) ∧ Below w.heap.size w wr) (fun _ i _ => s.size - (intOf i).toNat)
  case atStart =>
    exact ⟨skipN s.data.toList, [], none, 0, hsk, rfl, rfl, World.ownsRow_nil _ _ _ _, by simp, by simp, Below.refl _ _⟩
  case round =>
    obtain ⟨k, acc, A, cap, hk, rfl, rfl, hown, hak, hsc, hbel⟩ := hrel
    have HO := Lib.hid hown
    have HS := Lib.hid hsc
    have hsz := hbel.size
    clear hown hsc hsk
    by_cases hlt : k < s.size
    · go_upto_region 5 with (fail)
      go_cut [6, 7, 8] (fun s6 s7 s8 wx => ∃ (g : Nat) (K T : ByteArray) (P E : Int) (B : Bool), s6 = .pointer (some ⟨g, 0, none⟩) ∧ s7 = .int .i64 E ∧ s8 = .bool B ∧ Reads1 s k wr wx K T P E B g)
      case first =>
        rcases other_of hlt with ⟨h1, hr⟩ | ⟨h1, h2, k1, h3⟩ | ⟨ho, ⟨q, hr⟩ | ⟨q, hr⟩ | ⟨q, hr⟩ | ⟨q1, q2, q3, hr⟩⟩
        · have C := readWord_any s k k wr (by omega) rfl hlt h1
          rw [← hr] at C
          obtain ⟨K, T, P, E, B, hV⟩ := rdV_tuple (readT (s.data.toList.drop k)) k
          rw [hV] at C
          have C := Lib.hid C
          have HV := Lib.hid hV
          clear hr hV
          go_wp2_with fail
          refine (readerAt_word s k _ _ (by omega) rfl hlt h1).mono ?_
          rintro e w' ⟨rfl, rfl⟩
          go_wp2_with fail
          refine C.out.mono ?_
          rintro e w1 ⟨rfl, hb1⟩
          go_wp2_with fail
          go_meet
          exact ⟨_, K, T, P, E, B, rfl, rfl, rfl, Reads1.of HV.out hb1⟩
        · have C := fun R hR => readInt_any s k k1 k wr R (by omega) rfl hlt hR
          have C := C (readT (s.data.toList.drop k)) h3
          obtain ⟨K, T, P, E, B, hV⟩ := rdV_tuple (readT (s.data.toList.drop k)) k
          rw [hV] at C
          have C := Lib.hid C
          have HV := Lib.hid hV
          have RA := Lib.hid (readerAt_int s k k wr (by omega) rfl hlt h1 h2)
          clear h3 hV h2
          go_wp2_with fail
          refine RA.out.mono ?_
          rintro e w' ⟨rfl, rfl⟩
          go_wp2_with fail
          refine C.out.mono ?_
          rintro e w1 ⟨rfl, hb1⟩
          go_wp2_with fail
          go_meet
          exact ⟨_, K, T, P, E, B, rfl, rfl, rfl, Reads1.of HV.out hb1⟩
        · have C := quoted1_any s ⟨#[97, 116, 111, 109]⟩ k 60 k 60 (wr.heap.size + 1) wr.heap.size s[k] ((wr.alloc (.cells #[.string ⟨#[97, 116, 111, 109]⟩] 9)).alloc (.cells #[.int .i64 60] 3)) (by omega) rfl rfl (by omega) hlt rfl (by simp) (by simp; omega) (by simp [go_sem]) (by simp [go_sem])
          rw [show (⟨#[97, 116, 111, 109]⟩ : ByteArray).data.toList = kAtom from rfl, ← hr] at C
          obtain ⟨K, T, P, E, B, hV⟩ := rdV_tuple (readT (s.data.toList.drop k)) k
          rw [hV] at C
          have C := Lib.hid C
          have HV := Lib.hid hV
          have RA := Lib.hid (readerAt_quote s k k wr (by omega) rfl hlt ho q)
          have HB0 : Below wr.heap.size wr ((wr.alloc (.cells #[.string ⟨#[97, 116, 111, 109]⟩] 9)).alloc (.cells #[.int .i64 60] 3)) := ((Below.refl _ _).alloc (Nat.le_refl _) _).alloc (by simp) _
          clear hr hV ho q
          go_wp2_with fail
          refine RA.out.mono ?_
          rintro e w' ⟨rfl, rfl⟩
          go_wp2_with fail
          refine C.out.mono ?_
          rintro e w1 ⟨rfl, hb1⟩
          go_wp2_with fail
          go_meet
          exact ⟨_, K, T, P, E, B, rfl, rfl, rfl, Reads1.of HV.out (HB0.trans (hb1.mono (by simp; omega)))⟩
        · have C := quoted1_any s ⟨#[116, 101, 120, 116]⟩ k 200 k 200 (wr.heap.size + 1) wr.heap.size s[k] ((wr.alloc (.cells #[.string ⟨#[116, 101, 120, 116]⟩] 9)).alloc (.cells #[.int .i64 200] 3)) (by omega) rfl rfl (by omega) hlt rfl (by simp) (by simp; omega) (by simp [go_sem]) (by simp [go_sem])
          rw [show (⟨#[116, 101, 120, 116]⟩ : ByteArray).data.toList = kText from rfl, ← hr] at C
          obtain ⟨K, T, P, E, B, hV⟩ := rdV_tuple (readT (s.data.toList.drop k)) k
          rw [hV] at C
          have C := Lib.hid C
          have HV := Lib.hid hV
          have RA := Lib.hid (readerAt_text s k k wr (by omega) rfl hlt ho q)
          have HB0 : Below wr.heap.size wr ((wr.alloc (.cells #[.string ⟨#[116, 101, 120, 116]⟩] 9)).alloc (.cells #[.int .i64 200] 3)) := ((Below.refl _ _).alloc (Nat.le_refl _) _).alloc (by simp) _
          clear hr hV ho q
          go_wp2_with fail
          refine RA.out.mono ?_
          rintro e w' ⟨rfl, rfl⟩
          go_wp2_with fail
          refine C.out.mono ?_
          rintro e w1 ⟨rfl, hb1⟩
          go_wp2_with fail
          go_meet
          exact ⟨_, K, T, P, E, B, rfl, rfl, rfl, Reads1.of HV.out (HB0.trans (hb1.mono (by simp; omega)))⟩
        · have C := readChar_any s k k wr (by omega) rfl hlt
          rw [← hr] at C
          obtain ⟨K, T, P, E, B, hV⟩ := rdV_tuple (readT (s.data.toList.drop k)) k
          rw [hV] at C
          have C := Lib.hid C
          have HV := Lib.hid hV
          have RA := Lib.hid (readerAt_char s k k wr (by omega) rfl hlt ho q)
          clear hr hV ho q
          go_wp2_with fail
          refine RA.out.mono ?_
          rintro e w' ⟨rfl, rfl⟩
          go_wp2_with fail
          refine C.out.mono ?_
          rintro e w1 ⟨rfl, hb1⟩
          go_wp2_with fail
          go_meet
          exact ⟨_, K, T, P, E, B, rfl, rfl, rfl, Reads1.of HV.out hb1⟩
        · have C := readSign_any s k k wr (by omega) rfl hlt
          rw [← hr] at C
          obtain ⟨K, T, P, E, B, hV⟩ := rdV_tuple (readT (s.data.toList.drop k)) k
          rw [hV] at C
          have C := Lib.hid C
          have HV := Lib.hid hV
          have RA := Lib.hid (readerAt_sign s k k wr (by omega) rfl hlt ho q1 q2 q3)
          clear hr hV ho q1 q2 q3
          go_wp2_with fail
          refine RA.out.mono ?_
          rintro e w' ⟨rfl, rfl⟩
          go_wp2_with fail
          refine C.out.mono ?_
          rintro e w1 ⟨rfl, hb1⟩
          go_wp2_with fail
          go_meet
          exact ⟨_, K, T, P, E, B, rfl, rfl, rfl, Reads1.of HV.out hb1⟩
      case rest =>
        obtain ⟨g, K, T, P, E, B, rfl, rfl, rfl, hrd, hh, hg, hb⟩ := hcut
        have c0 : wc.cell? ⟨g, 0, none⟩ = some (.string K) := by rw [Lib.cell_of_heap hh]; rfl
        have c1 : wc.cell? ⟨g, 1, none⟩ = some (.string T) := by rw [Lib.cell_of_heap hh]; rfl
        have c2 : wc.cell? ⟨g, 2, none⟩ = some (.int .i64 P) := by rw [Lib.cell_of_heap hh]; rfl
        have hbs := hb.size
        clear hh
        rcases tk_eq hrd with ⟨hn, rfl⟩ | ⟨r, hr, rfl, rfl, rfl, rfl, rfl⟩
        · have F := Lib.hid (HT2.out acc k (by rw [HS.out, scanN_bad (by simp; omega) hn]; simp))
          clear hrd hn
          go_wp2_with fail
          go_returns
          refine ⟨none, 0, ?_⟩
          rw [F.out]
          exact ⟨rfl, World.ownsRow_nil _ _ _ _, hbel.trans (hb.mono hsz)⟩
        · have hrs := readT_size hr
          rw [List.length_drop] at hrs
          have hlen : s.data.toList.length = s.size := by simp
          rw [hlen] at hrs
          have HN := Lib.hid (scanN_tok (L := s.data.toList) (k := k) (by omega) hr)
          have hsk := skipN_le (s.data.toList.drop (k + r.size))
          rw [List.length_drop, hlen] at hsk
          clear hrd hr hlen
          go_wp2_with (at_builtin; refine wpList_append_own _ rfl _ _ 23 rfl w.heap.size 33 i0 (.agg #[.string ⟨#[]⟩, .string ⟨#[]⟩, .int .i64 0]) 3 40 Try.underlying23 hi hz0 hz1 hz2 rfl (by decide) _ _ _ rfl ((own_below HO.out hb).alloc _) ⟨wc.heap.size, 0, none⟩ 1 1 [.string ⟨r.kind.toArray⟩, .string ⟨r.text.toArray⟩, .int .i64 (k : Int)] rfl rfl ?c1 ?c2 ?c3 ?c4 ?c5 ?_)
          case c1 =>
            intro j u hj
            match j, hj with
            | 0, hj => simp at hj; subst hj; simp [Addr.add]
            | 1, hj => simp at hj; subst hj; simp [Addr.add]
            | 2, hj => simp at hj; subst hj; simp [Addr.add]
          case c2 => intro u hu; simp at hu; rcases hu with rfl | rfl | rfl <;> rfl
          case c3 => unfold maxLen; omega
          case c4 => omega
          case c5 => simp; omega
          intro v' w2 hown' hgrow _
          obtain ⟨A', cap', hv'⟩ : ∃ A' cap', v' = .slice A' (acc ++ [(⟨r.kind, r.text, k⟩ : Tk)]).length cap' := by
            rcases hown'.2 with ⟨_, hz⟩ | ⟨g, cap, cur, hv, _⟩
            · omega
            · exact ⟨some ⟨g, 0, none⟩, cap, by rw [hv]; simp⟩
          have hown2 : w2.ownsRow w.heap.size 33 3 (.slice A' (acc ++ [(⟨r.kind, r.text, k⟩ : Tk)]).length cap') (acc ++ [(⟨r.kind, r.text, k⟩ : Tk)]).length (tkCells (acc ++ [(⟨r.kind, r.text, k⟩ : Tk)])) := by
            rw [← hv', tkCells_snoc]
            simpa using hown'
          have hbw : Below w.heap.size w w2 :=
            ((hbel.trans (hb.mono hsz)).alloc (by omega) _).grown hgrow (by simp; omega) (fun k hk => ((own_below HO.out hb).lt k hk).1)
          have OW := Lib.hid hown2
          have VV := Lib.hid hv'
          clear hown' hgrow hown2 hv' c0 c1 c2
          go_wp2_with fail
          refine (skipGap_any s _ (k + r.size) _ (by omega) (by omega) (by omega)).mono ?_
          rintro e w' ⟨rfl, rfl⟩
          go_wp2_with fail
          go_roundw
          case rel => exact ⟨k + r.size + skipN (s.data.toList.drop (k + r.size)), acc ++ [⟨r.kind, r.text, k⟩], A', cap', by omega, by go_num, VV.out, OW.out, by simp; omega, by rw [HS.out, HN.out]; simp, hbw⟩
          case measure => simp [intOf]; omega
    · have F := Lib.hid (HT1.out acc (by rw [HS.out, scanN_end (by simp; omega)]; simp))
      go_wp2_with fail
      go_returns
      refine ⟨A, cap, ?_⟩
      rw [F.out]
      exact ⟨rfl, HO.out, hbel⟩
end Go.Proofs.Ytjiihfdbdbhhaaa
