/-
  The law on gaps between tokens: the walk.
-/
import Derived.Test.YtjiihfdbdbhhaaaTokGp
import Derived.OpenShut
namespace Go.Proofs.Ytjiihfdbdbhhaaa
open Go.RowKit T

/-- the bytes that choose the gaps, as they lie in memory -/
def GpArg (w : World) (A : Option Addr) (zs : Nat → Int) (n : Nat) : Prop :=
  0 < n → ∃ b off : Nat, A = some ⟨b, off, none⟩ ∧ b < w.heap.size ∧ ∀ j, j < n → w.cell? ⟨b, off + j, none⟩ = some (.int .u8 (zs j)) ∧ 0 ≤ zs j ∧ zs j ≤ 255
theorem gp_of {w : World} {a : Addr} {zs : List Int} {n : Nat} (hn : n ≤ zs.length) (hc : ∀ i, i < zs.length → w.cell? (a.add i) = some (.int .u8 (zs.getD i 0))) (hw : ∀ z ∈ zs, (Lit.int .u8 z).wf = true) :
    GpArg w (some a) (fun j => zs.getD j 0) n := by
  intro h0
  obtain ⟨b, off, rfl, hcell⟩ := ints_at hc (by omega)
  have c0 := hcell 0 (by omega)
  refine ⟨b, off, rfl, ?_, fun j hj => ⟨hcell j (by omega), ?_⟩⟩
  · rcases Nat.lt_or_ge b w.heap.size with h' | h'
    · exact h'
    · simp [World.cell?, Array.getElem?_eq_none h'] at c0
  · have hm : zs.getD j 0 ∈ zs := by
      rw [List.getD_eq_getElem?_getD, List.getElem?_eq_getElem (show j < zs.length by omega)]
      exact List.getElem_mem _
    exact bounds_u8 (hw _ hm)
def kts (ts : List Tk) : List (ByteArray × ByteArray) := ts.map fun t => (⟨t.kind.toArray⟩, ⟨t.text.toArray⟩)
theorem RdTk.alk {w : World} {A : Option Addr} {ts us : List Tk} (h : RdTk w A us) (hk : us.map kt = ts.map kt) : AlTk w A (kts ts) := by
  have hl : us.length = ts.length := by have := congrArg List.length hk; simpa using this
  have hl2 : (kts ts).length = ts.length := by simp [kts]
  intro h0
  obtain ⟨g, hA, hc⟩ := h (by omega)
  refine ⟨g, 0, hA, fun j hj => ?_⟩
  obtain ⟨t0, t1, _⟩ := tk_cell us j (by omega)
  have e : (us.map kt)[j]'(by rw [List.length_map]; omega) = (ts.map kt)[j]'(by rw [List.length_map]; omega) := by
    congr 1
  simp only [List.getElem_map, kt, Prod.mk.injEq] at e
  rw [Nat.zero_add]
  refine ⟨(hc _ _ t0).trans ?_, (hc _ _ t1).trans ?_⟩
  · simp [kts, e.1]
  · simp [kts, e.2]
def frm (ts : List Tk) : Nat → Nat
  | 0 => 0
  | k + 1 => (ts[k]?.map (·.at_)).getD 0
theorem frm_succ {ts : List Tk} {k : Nat} (h : k < ts.length) : frm ts (k + 1) = ts[k].at_ := by simp [frm, List.getElem?_eq_getElem h]
def gapE (zs : Nat → Int) (n : Nat) (i : Nat) : List UInt8 := gapL ((zs (i % n)).toNat % 8)
theorem gapE_ok (zs : Nat → Int) (n : Nat) : GapE (gapE zs n) := fun _ => ⟨gapL_gap _, gapL_head _⟩
theorem ins_step {E : Nat → List UInt8} {L : List UInt8} {ts : List Tk} {k : Nat} (h : k < ts.length) :
    insP E L k (frm ts k) (ts.drop k) = (L.drop (frm ts k)).take (ts[k].at_ - frm ts k) ++ E k ++ insP E L (k + 1) (frm ts (k + 1)) (ts.drop (k + 1)) := by
  rw [List.drop_eq_getElem_cons h, insP, frm_succ h]
theorem frm_le {L : List UInt8} {ts : List Tk} (hts : (scanN L (skipN L)).1 = ts) {k : Nat} (h : k < ts.length) : frm ts k ≤ ts[k].at_ ∧ ts[k].at_ < L.length := by
  have h1 := scan_at L (L.length + 1) (skipN L) (by omega) ts[k] (by rw [hts]; exact List.getElem_mem _)
  refine ⟨?_, h1.2⟩
  match k, h with
  | 0, _ => exact Nat.zero_le _
  | k + 1, h =>
    rw [frm_succ (by omega)]
    subst hts
    exact scan_mono L (L.length + 1) (skipN L) (by omega) k h
theorem frm_len {L : List UInt8} {ts : List Tk} (hts : (scanN L (skipN L)).1 = ts) {k : Nat} (h : k ≤ ts.length) : frm ts k ≤ L.length := by
  match k, h with
  | 0, _ => exact Nat.zero_le _
  | k + 1, h =>
    rw [frm_succ (by omega)]
    exact Nat.le_of_lt (frm_le hts (by omega)).2
theorem extract_list (s : ByteArray) (f a : Nat) : (s.extract f a).data.toList = (s.data.toList.drop f).take (a - f) := by
  simp

set_option maxHeartbeats 4000000 in
set_option maxRecDepth 100000 in
theorem TokenBlanks_any (s : ByteArray) (A : Option Addr) (n c : Nat) (zs : Nat → Int) (w : World) (hs : s.size ≤ maxLen) (hn : n ≤ maxLen) (h : GpArg w A zs n) :
    Calls Try.prog 7 #[.string s, .slice A n c] w fun e w' => e = .returned (.bool true) ∧ Below w.heap.size w w' := by
  have T1 := fun wx => Tokens_any s wx hs
  unfold TokensPost at T1
  have hsc : s.size ≤ 10000 → (scanT s.data.toList).2.2 = 10 ∨ ((scanT s.data.toList).2.2 = 0 ∧ (scanN s.data.toList (skipN s.data.toList)).2 = none ∧ (scanN s.data.toList (skipN s.data.toList)).1 = (scanT s.data.toList).1) := by
    intro hz
    rw [scanT_of (l := s.data.toList) (by simp; omega)]
    rcases hx : (scanN s.data.toList (skipN s.data.toList)).2 with _ | b
    · right; exact ⟨rfl, rfl, rfl⟩
    · left; rfl
  generalize scanT s.data.toList = R at T1 hsc
  obtain ⟨ts, b, er⟩ := R
  simp only [] at T1 hsc
  have T1 := Lib.hid T1
  unfold maxLen at hs hn
  by_cases h1 : s.size ≤ 10000
  · have hsc := hsc h1
    rcases hsc with rfl | ⟨rfl, hnone, hts⟩
    · go_enter Try.func7, Try.ntmps7
      go_wp2_with fail
      refine (T1.out _).mono ?_
      rintro e w1 ⟨A1, c1, rfl, ho1, hb1⟩
      clear ho1
      go_wp2_with fail
      refine (awake_any _).mono ?_
      rintro e w2 ⟨rfl, hb2⟩
      go_wp2_with fail
      go_ret
      exact ⟨rfl, hb1.trans (hb2.mono hb1.size)⟩
    · rcases Nat.eq_zero_or_pos n with rfl | hn0
      · go_enter Try.func7, Try.ntmps7
        go_wp2_with fail
        refine (T1.out _).mono ?_
        rintro e w1 ⟨A1, c1, rfl, ho1, hb1⟩
        clear ho1
        go_wp2_with fail
        refine (awake_any _).mono ?_
        rintro e w2 ⟨rfl, hb2⟩
        go_wp2_with fail
        go_ret
        exact ⟨rfl, hb1.trans (hb2.mono hb1.size)⟩
      · by_cases h7 : ts.length ≤ 700
        · have HX := Lib.hid hnone
          have HT := Lib.hid hts
          clear hnone hts
          obtain ⟨gb, go, rfl, hgb, hgc⟩ := h hn0
          have HG := Lib.hid hgc
          clear hgc h
          go_enter Try.func7, Try.ntmps7
          go_wp2_with fail
          refine (T1.out _).mono ?_
          rintro e w1 ⟨A1, c1, rfl, ho1, hb1⟩
          have HO := Lib.hid ho1
          clear ho1
          have hsz1 := hb1.size
          have zn : ((n : Int) == 0) = false := by simp; omega
          have z7 : ¬ (700 : Int) < (ts.length : Int) := by omega
          have z1 : ¬ (10000 : Int) < (s.size : Int) := by omega
          go_wp2_with fail
          go_loopw [7, 8, 38] (fun S f i wr => ∃ (k : Nat) (B : ByteArray), k ≤ ts.length ∧ i = .int .i64 k ∧ f = .int .i64 (frm ts k) ∧ S = .string B ∧
            B.data.toList ++ insP (gapE zs n) s.data.toList k (frm ts k) (ts.drop k) = insP (gapE zs n) s.data.toList 0 0 ts ∧ B.size ≤ frm ts k + 11 * k ∧ Below w1.heap.size w1 wr) (fun _ _ i _ => ts.length - (intOf i).toNat)
          case atStart => exact ⟨0, ⟨#[]⟩, Nat.zero_le _, rfl, rfl, rfl, rfl, Nat.le_refl _, Below.refl _ _⟩
          case round =>
            obtain ⟨k, B, hk, rfl, rfl, rfl, hB, hBs, hb⟩ := hrel
            have HB := Lib.hid hB
            clear hB
            have hsz := hb.size
            by_cases hlt : k < ts.length
            · obtain ⟨g1, rfl, hc1⟩ := RdTk.of (own_below HO.out hb) (by omega)
              obtain ⟨t0, t1, t2⟩ := tk_cell ts k hlt
              have a0 := hc1 _ _ t0
              have a1 := hc1 _ _ t1
              have a2 := hc1 _ _ t2
              have hg1 := (own_below HO.out hb).lt g1 rfl
              obtain ⟨hf1, hf2⟩ := frm_le HT.out hlt
              have FS := Lib.hid (frm_succ hlt)
              have IS := Lib.hid (ins_step (E := gapE zs n) (L := s.data.toList) hlt)
              have hll : s.data.toList.length = s.size := by simp
              rw [hll] at hf2
              clear hc1 t0 t1 t2 hll
              generalize hat : ts[k] = tk at *
              generalize hfr : frm ts k = f at *
              have z1 : (0 : Int) ≤ (k : Int) := by omega
              have z2 : (k : Int) < (ts.length : Int) := by omega
              have z3 : ¬ ((tk.at_ : Int) < (f : Int)) := by omega
              have z4 : ¬ ((s.size : Int) ≤ (tk.at_ : Int)) := by omega
              have hm := Nat.mod_lt k hn0
              have zm : (k : Int) % (n : Int) = ((k % n : Nat) : Int) := (Int.natCast_emod k n).symm
              have GE := Lib.hid (show gapE zs n k = gapL ((zs (k % n)).toNat % 8) from rfl)
              have hbW : Below w.heap.size w wr := hb1.trans (hb.mono hsz1)
              obtain ⟨gc, gz0, gz1⟩ := HG.out (k % n) hm
              have gc := (hbW.cell (p := ⟨gb, go + k % n, none⟩) hgb).trans gc
              generalize k % n = m at *
              generalize hzz : zs m = z at *
              obtain ⟨G, hG⟩ : ∃ G : ByteArray, G.data.toList = gapL (z.toNat % 8) := ⟨⟨(gapL (z.toNat % 8)).toArray⟩, rfl⟩
              have y1 : (f : Int) ≤ (tk.at_ : Int) := by omega
              have y2 : (tk.at_ : Int) ≤ (s.size : Int) := by omega
              have y3 : (0 : Int) ≤ (f : Int) := by omega
              have y4 : ¬ ((n : Int) = 0) := by omega
              have y5 : (m : Int) < (n : Int) := by omega
              have y6 : (0 : Int) ≤ (m : Int) := by omega
              have hGs : G.size ≤ 11 := by rw [size_list hG]; exact gapL_le _
              have GC : ∀ wx, (wx.cell? ⟨wr.heap.size, 2, none⟩ = some (.int .i64 (tk.at_ : Int)) ∧ wx.cell? ⟨gb, go + m, none⟩ = some (.int .u8 z) ∧ wr.heap.size < wx.heap.size ∧ Below w1.heap.size w1 wx) →
                  Calls Try.prog 31 #[.int .u8 z] wx fun e w' => e = .returned (.string G) ∧ (w'.cell? ⟨wr.heap.size, 2, none⟩ = some (.int .i64 (tk.at_ : Int)) ∧ w'.cell? ⟨gb, go + m, none⟩ = some (.int .u8 z) ∧ wr.heap.size < w'.heap.size ∧ Below w1.heap.size w1 w') := by
                rintro wx ⟨x0, x1, x2, x3⟩
                refine (gap_any z wx gz0 gz1).mono ?_
                rintro e w2 ⟨rfl, hb2⟩
                exact ⟨by rw [← hG], (hb2.cell (p := ⟨wr.heap.size, 2, none⟩) x2).trans x0, (hb2.cell (p := ⟨gb, go + m, none⟩) (by show gb < _; omega)).trans x1, by have := hb2.size; omega, x3.trans (hb2.mono x3.size)⟩
              have HGE := Lib.hid hG
              have hE : (s.extract f tk.at_).size ≤ 10000 := by rw [ByteArray.size_extract]; omega
              have hE2 : (s.extract f tk.at_ ++ G).size ≤ 10011 := by rw [ByteArray.size_append]; omega
              clear hG HG HX HT T1 hat hfr hzz
              have d0 : (wr.alloc (.cells #[.string ⟨tk.kind.toArray⟩, .string ⟨tk.text.toArray⟩, .int .i64 (tk.at_ : Int)] 33)).cell? ⟨wr.heap.size, 2, none⟩ = some (.int .i64 (tk.at_ : Int)) := by simp [go_sem]
              have hbA : Below w1.heap.size w1 (wr.alloc (.cells #[.string ⟨tk.kind.toArray⟩, .string ⟨tk.text.toArray⟩, .int .i64 (tk.at_ : Int)] 33)) := hb.alloc hsz _
              have d1 : (wr.alloc (.cells #[.string ⟨tk.kind.toArray⟩, .string ⟨tk.text.toArray⟩, .int .i64 (tk.at_ : Int)] 33)).cell? ⟨gb, go + m, none⟩ = some (.int .u8 z) :=
                (((Below.refl wr.heap.size wr).alloc (Nat.le_refl _) _).cell (p := ⟨gb, go + m, none⟩) (by show gb < _; omega)).trans gc
              have d2 : wr.heap.size < (wr.alloc (.cells #[.string ⟨tk.kind.toArray⟩, .string ⟨tk.text.toArray⟩, .int .i64 (tk.at_ : Int)] 33)).heap.size := by simp
              go_wp2_with fail
              have hmin : min tk.at_ s.size = tk.at_ := by omega
              have c14 : ¬ (9223372036854775807 < tk.at_ - f + G.size) := by omega
              have c15 : ¬ (9223372036854775807 < B.size + (tk.at_ - f + G.size)) := by omega
              have cr1 : Int.tmod (k : Int) (n : Int) = (m : Int) := by rw [Int.tmod_eq_emod_of_nonneg z1, zm]
              have cn : ¬ (n = 0) := by omega
              go_region_held3 (fun wx => wx.cell? ⟨wr.heap.size, 2, none⟩ = some (.int .i64 (tk.at_ : Int)) ∧ wx.cell? ⟨gb, go + m, none⟩ = some (.int .u8 z) ∧ wr.heap.size < wx.heap.size ∧ Below w1.heap.size w1 wx) (first | assumption | exact ⟨d0, d1, d2, hbA.drew⟩) (first | (go_at_call 31; refine (GC _ (by assumption)).mono ?_; rintro e wy ⟨rfl, hS2⟩))
              go_wp2_with fail
              go_roundw
              case rel =>
                refine ⟨k + 1, _, by omega, by go_num, by rw [FS.out], rfl, ?_, ?_, hS2.2.2.2⟩
                · rw [← HB.out, IS.out, GE.out, ← HGE.out]
                  simp
                · rw [FS.out, ByteArray.size_append, ByteArray.size_append, ByteArray.size_extract]; omega
              case measure => simp [intOf]; omega
            · have hkn : k = ts.length := by omega
              subst hkn
              have hfl := frm_len HT.out (Nat.le_refl ts.length)
              have hll : s.data.toList.length = s.size := by simp
              rw [hll] at hfl
              obtain ⟨gc, gz0, gz1⟩ := HG.out 0 hn0
              have gc := ((hb1.trans (hb.mono hsz1)).cell (p := ⟨gb, go + 0, none⟩) hgb).trans gc
              rw [Nat.add_zero] at gc
              have hB := HB.out
              rw [List.drop_length, insP] at hB
              generalize zs 0 = z at *
              obtain ⟨G, hG⟩ : ∃ G : ByteArray, G.data.toList = gapL (z.toNat % 8) := ⟨⟨(gapL (z.toNat % 8)).toArray⟩, rfl⟩
              have hGs : G.size ≤ 11 := by rw [size_list hG]; exact gapL_le _
              generalize frm ts ts.length = f at *
              have HNN : (B ++ (s.extract f s.size ++ ({ data := #[10] } : ByteArray) ++ G)).data.toList = insP (gapE zs n) s.data.toList 0 0 ts ++ 10 :: gapL (z.toNat % 8) := by
                have htk : (s.data.toList.drop f).take (s.size - f) = s.data.toList.drop f := List.take_of_length_le (by simp)
                rw [← hB, ← hG]; simp [htk]
              have e1 : ({ data := #[10] } : ByteArray).size = 1 := rfl
              have hNs : (B ++ (s.extract f s.size ++ ({ data := #[10] } : ByteArray) ++ G)).size ≤ 20000 := by
                rw [ByteArray.size_append, ByteArray.size_append, ByteArray.size_append, ByteArray.size_extract, e1]; omega
              have hsi := scan_ins (gapE zs n) (gapE_ok zs n) s.data.toList (gapL (z.toNat % 8)) (gapL_skip _) HX.out
              rw [HT.out, ← HNN] at hsi
              have T2 := fun wx => Tokens_any (B ++ (s.extract f s.size ++ ({ data := #[10] } : ByteArray) ++ G)) wx (by unfold maxLen; omega)
              have hsT := scanT_of (l := (B ++ (s.extract f s.size ++ ({ data := #[10] } : ByteArray) ++ G)).data.toList) (by rw [← size_list rfl]; exact hNs)
              rw [hsi.1] at hsT
              unfold TokensPost at T2
              rw [hsT] at T2
              have hkt := hsi.2
              generalize (scanN (B ++ (s.extract f s.size ++ ({ data := #[10] } : ByteArray) ++ G)).data.toList (skipN (B ++ (s.extract f s.size ++ ({ data := #[10] } : ByteArray) ++ G)).data.toList)).1 = ts2 at T2 hkt
              simp only [] at T2
              have hl2 : ts2.length = ts.length := by simpa using congrArg List.length hkt
              have HK := Lib.hid hkt
              have T2 := Lib.hid T2
              have GC : ∀ wx, (wx.cell? ⟨gb, go, none⟩ = some (.int .u8 z) ∧ w1.heap.size ≤ wx.heap.size ∧ Below w1.heap.size w1 wx) →
                  Calls Try.prog 31 #[.int .u8 z] wx fun e w' => e = .returned (.string G) ∧ (w'.cell? ⟨gb, go, none⟩ = some (.int .u8 z) ∧ w1.heap.size ≤ w'.heap.size ∧ Below w1.heap.size w1 w') := by
                rintro wx ⟨x1, x2, x3⟩
                refine (gap_any z wx gz0 gz1).mono ?_
                rintro e w2 ⟨rfl, hb2⟩
                exact ⟨by rw [← hG], (hb2.cell (p := ⟨gb, go, none⟩) (by show gb < _; omega)).trans x1, by have := hb2.size; omega, x3.trans (hb2.mono x3.size)⟩
              have hE : (s.extract f s.size).size ≤ 10000 := by rw [ByteArray.size_extract]; omega
              have hE2 : (s.extract f s.size ++ ({ data := #[10] } : ByteArray)).size ≤ 10001 := by rw [ByteArray.size_append, e1]; omega
              have hE3 : (s.extract f s.size ++ ({ data := #[10] } : ByteArray) ++ G).size ≤ 10012 := by rw [ByteArray.size_append]; omega
              have y1 : (f : Int) ≤ (s.size : Int) := by omega
              have y3 : (0 : Int) ≤ (f : Int) := by omega
              have y5 : (0 : Int) < (n : Int) := by omega
              clear hB hG HNN hsi hsT hkt HG HX HT T1 e1
              go_wp2_with fail
              have c4 : ¬ (9223372036854775807 < s.size - f + 1) := by omega
              have c9 : ¬ (9223372036854775807 < s.size - f + 1 + G.size) := by omega
              have c10 : ¬ (9223372036854775807 < B.size + (s.size - f + 1 + G.size)) := by omega
              go_region_held3 (fun wx => wx.cell? ⟨gb, go, none⟩ = some (.int .u8 z) ∧ w1.heap.size ≤ wx.heap.size ∧ Below w1.heap.size w1 wx) (first | assumption | exact ⟨gc, hsz, hb.drew⟩) (first | (go_at_call 31; refine (GC _ (by assumption)).mono ?_; rintro e wy ⟨rfl, hS2⟩))
              go_wp2_with fail
              refine (T2.out _).mono ?_
              rintro e w3 ⟨A2, c2, rfl, ho2, hb3⟩
              have hb4 := hS2.2.2
              have hb5 := hb4.trans (hb3.mono hb4.size)
              have R1 := RdTk.alk (ts := ts) (RdTk.of (own_below HO.out hb5)) rfl
              have R2 := RdTk.alk (ts := ts) (RdTk.of ho2) HK.out
              rw [hl2]
              have AL := Lib.hid (Alike_any A1 A2 c1 c2 ts.length (kts ts) w3 (by simp [kts]) (by omega) R1 R2)
              clear R1 R2 ho2
              have hbE : Below w.heap.size w w3 := hb1.trans (hb5.mono hsz1)
              go_wp2_with fail
              refine AL.out.mono ?_
              rintro e w5 ⟨rfl, d, rfl⟩
              go_wp2_with fail
              refine (awake_any _).mono ?_
              rintro e w6 ⟨rfl, hb6⟩
              go_wp2_with fail
              go_ret
              exact ⟨rfl, (below_drewN hbE d).trans (hb6.mono (below_drewN hbE d).size)⟩
        · have z7 : (700 : Int) < (ts.length : Int) := by omega
          have zn : ((n : Int) == 0) = false := by simp; omega
          have z1 : ¬ (10000 : Int) < (s.size : Int) := by omega
          go_enter Try.func7, Try.ntmps7
          go_wp2_with fail
          refine (T1.out _).mono ?_
          rintro e w1 ⟨A1, c1, rfl, ho1, hb1⟩
          clear ho1
          go_wp2_with fail
          refine (awake_any _).mono ?_
          rintro e w2 ⟨rfl, hb2⟩
          go_wp2_with fail
          go_ret
          exact ⟨rfl, hb1.trans (hb2.mono hb1.size)⟩
  · clear hsc
    go_enter Try.func7, Try.ntmps7
    go_wp2_with fail
    refine (T1.out _).mono ?_
    rintro e w1 ⟨A1, c1, rfl, ho1, hb1⟩
    clear ho1
    go_wp2_with fail
    refine (awake_any _).mono ?_
    rintro e w2 ⟨rfl, hb2⟩
    go_wp2_with fail
    go_ret
    exact ⟨rfl, hb1.trans (hb2.mono hb1.size)⟩
end Go.Proofs.Ytjiihfdbdbhhaaa
