/-
  The reading of a whole source: the document's own answer.
-/
import Derived.Test.YtjiihfdbdbhhaaaTokOs
import Derived.Test.YtjiihfdbdbhhaaaTokZ
namespace Go.Proofs.Ytjiihfdbdbhhaaa
open Go.RowKit T

def badI : Option Nat → Int
  | none => -1
  | some b => (b : Int)

def ScanPost (s : ByteArray) (w : World) (e : Ending) (w' : World) : Prop :=
  ∃ (A : Option Addr) (cap : Nat), e = .returned (.tuple #[.slice A (scanN s.data.toList (skipN s.data.toList)).1.length cap, .int .i64 (badI (scanN s.data.toList (skipN s.data.toList)).2)]) ∧
      w'.ownsRow w.heap.size 33 3 (.slice A (scanN s.data.toList (skipN s.data.toList)).1.length cap) (scanN s.data.toList (skipN s.data.toList)).1.length (tkCells (scanN s.data.toList (skipN s.data.toList)).1) ∧ Below w.heap.size w w'

set_option maxHeartbeats 4000000 in
theorem scan_r_any (s : ByteArray) (w : World) (hs : s.size ≤ 20000) :
    Calls Try.prog 33 #[.string s] w (ScanPost s w) := by
  obtain ⟨i0, hi, hz0, hz1, hz2⟩ := info_parts tkInfo
  generalize hSN : scanN s.data.toList (skipN s.data.toList) = SN
  have HSN := Lib.hid hSN
  clear hSN
  go_enter Try.func33, Try.ntmps33
  go_wp2_with fail
  go_loopw [4, 5] (fun l i wr => ∃ (k : Nat) (acc : List Tk) (A : Option Addr) (cap : Nat), k ≤ s.size ∧ i = .int .i64 k ∧ l = .slice A acc.length cap ∧ wr.ownsRow w.heap.size 33 3 (.slice A acc.length cap) acc.length (tkCells acc) ∧ acc.length ≤ k ∧
    SN = (acc ++ (scanN s.data.toList (k + skipN (s.data.toList.drop k))).1, (scanN s.data.toList (k + skipN (s.data.toList.drop k))).2) ∧ Below w.heap.size w wr) (fun _ i _ => s.size - (intOf i).toNat)
  case atStart =>
    exact ⟨0, [], none, 0, Nat.zero_le _, rfl, rfl, World.ownsRow_nil _ _ _ _, Nat.le_refl _, by rw [← HSN.out]; simp, Below.refl _ _⟩
  case round =>
    obtain ⟨k, acc, A, cap, hk, rfl, rfl, hown, hak, hsc, hbel⟩ := hrel
    have HO := Lib.hid hown
    have HS := Lib.hid hsc
    have hsz := hbel.size
    clear hown hsc
    by_cases hlt : k < s.size
    · go_wp2_with fail
      refine (remark_any s k _ _ (by omega) rfl hlt).mono ?_
      rintro e w' ⟨v, hv, rfl, rfl⟩
      rcases hv with ⟨rfl, hsk⟩ | ⟨rfl, hsk, hrn⟩ | ⟨e, rfl, he1, he2, he3⟩
      · have HK := Lib.hid hsk
        have z : ((k : Int) != (k : Int)) = false := by simp
        clear hsk
        go_wp2_with fail
        refine (one_any s k _ (by omega) hlt).mono ?_
        rintro e w1 ⟨K, T, P, E, B, rfl, hb, hR⟩
        have hbs := hb.size
        rcases hR with ⟨hn, rfl⟩ | ⟨r, hr, rfl, rfl, rfl, rfl, rfl⟩
        · have F := Lib.hid (show SN = (acc, some k) by
            rw [HS.out, HK.out, Nat.add_zero, scanN_bad (by simp; omega) hn]; simp)
          clear hn
          go_wp2_with fail
          go_returns
          refine ⟨A, cap, ?_⟩
          rw [HSN.out, F.out]
          exact ⟨rfl, (own_below HO.out hb).alloc _, (hbel.trans (hb.mono hsz)).alloc (by omega) _⟩
        · have hrs := readT_size hr
          rw [List.length_drop] at hrs
          have hlen : s.data.toList.length = s.size := by simp
          rw [hlen] at hrs
          have HN := Lib.hid (scanN_tok (L := s.data.toList) (k := k) (by omega) hr)
          clear hr hlen
          go_wp2_with (at_builtin; refine wpList_append_own _ rfl _ _ 23 rfl w.heap.size 33 i0 (.agg #[.string ⟨#[]⟩, .string ⟨#[]⟩, .int .i64 0]) 3 40 Try.underlying23 hi hz0 hz1 hz2 rfl (by decide) _ _ _ rfl (((own_below HO.out hb).alloc _).alloc _) ⟨w1.heap.size + 1, 0, none⟩ 1 1 [.string ⟨r.kind.toArray⟩, .string ⟨r.text.toArray⟩, .int .i64 (k : Int)] rfl rfl ?c1 ?c2 ?c3 ?c4 ?c5 ?_)
          case c1 =>
            intro j u hj
            match j, hj with
            | 0, hj => simp at hj; subst hj; simp [Addr.add, go_sem]
            | 1, hj => simp at hj; subst hj; simp [Addr.add, go_sem]
            | 2, hj => simp at hj; subst hj; simp [Addr.add, go_sem]
          case c2 => intro u hu; simp at hu; rcases hu with rfl | rfl | rfl <;> rfl
          case c3 => unfold maxLen; omega
          case c4 => omega
          case c5 => simp; omega
          intro v' w2 hown' hgrow _
          obtain ⟨A', cap', hv'⟩ : ∃ A' cap', v' = .slice A' (acc ++ [(⟨r.kind, r.text, k⟩ : Tk)]).length cap' := by
            rcases hown'.2 with ⟨_, hz⟩ | ⟨g, cap, cur, hv, _⟩
            · omega
            · exact ⟨some ⟨g, 0, none⟩, cap, by rw [hv]; simp⟩
          have hown2 : w2.ownsRow w.heap.size 33 3 (.slice A' (acc ++ [(⟨r.kind, r.text, k⟩ : Tk)]).length cap') (acc ++ [(⟨r.kind, r.text, k⟩ : Tk)]).length (tkCells (acc ++ [(⟨r.kind, r.text, k⟩ : Tk)])) := by
            rw [← hv', tkCells_snoc]
            simpa using hown'
          have hbw : Below w.heap.size w w2 :=
            (((hbel.trans (hb.mono hsz)).alloc (by omega) _).alloc (by simp; omega) _).grown hgrow (by simp; omega) (fun k hk => ((own_below HO.out hb).lt k hk).1)
          have OW := Lib.hid hown2
          have VV := Lib.hid hv'
          clear hown' hgrow hown2 hv'
          go_wp2_with fail
          go_roundw
          case rel => exact ⟨k + r.size, acc ++ [(⟨r.kind, r.text, k⟩ : Tk)], A', cap', by omega, by go_num, VV.out, OW.out, by simp; omega, by rw [HS.out, HK.out, Nat.add_zero, HN.out]; simp, hbw⟩
          case measure => simp [intOf]; omega
      · have F := Lib.hid (show SN = (acc, some k) by
          rw [HS.out, hsk, Nat.add_zero, scanN_bad (by simp; omega) hrn]; simp)
        have z : ((-1 : Int) != (k : Int)) = true := by rw [bne_iff_ne]; omega
        clear hsk hrn
        go_wp2_with fail
        go_returns
        refine ⟨A, cap, ?_⟩
        rw [HSN.out, F.out]
        exact ⟨rfl, HO.out, hbel⟩
      · have z : ((e : Int) != (k : Int)) = true := by simp; omega
        have HE := Lib.hid he3
        clear he3
        go_wp2_with fail
        go_roundw
        case rel => exact ⟨e, acc, A, cap, he2, rfl, rfl, HO.out, by omega, by rw [HS.out, HE.out], hbel⟩
        case measure => simp [intOf]; omega
    · have F := Lib.hid (show SN = (acc, none) by
        rw [HS.out, List.drop_of_length_le (l := s.data.toList) (i := k) (by simp; omega), show skipN ([] : List UInt8) = 0 from rfl, Nat.add_zero, scanN_end (by simp; omega)]; simp)
      go_wp2_with fail
      go_returns
      refine ⟨A, cap, ?_⟩
      rw [HSN.out, F.out]
      exact ⟨rfl, HO.out, hbel⟩
end Go.Proofs.Ytjiihfdbdbhhaaa
