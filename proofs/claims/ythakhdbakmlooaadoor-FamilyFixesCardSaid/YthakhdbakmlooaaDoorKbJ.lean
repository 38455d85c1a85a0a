/-
  Settling a row of bounds.
-/
import Derived.Test.YthakhdbakmlooaaDoorKbI
import Derived.Test.YthakhdbakmlooaaDoorKbG
namespace Go.Proofs.YthakhdbakmlooaaDoor
set_option linter.unusedSimpArgs false
open Go Go.RowKit Go.Shelf Go.Ev

/-- how a relation lies -/
def RelLies (w : World) (b o g n : Nat) (r : RelV) : Prop := w.cell? ⟨b, o, none⟩ = some (.string r.k) ∧ w.cell? ⟨b, o + 1, none⟩ = some (.slice r.A r.vs.length r.c) ∧ w.cell? ⟨b, o + 2, none⟩ = some (.int .i64 r.N) ∧ KF r.k.toList r.d ∧ relB r.d r.vs n = true ∧ Ints w r.A r.vs ∧ ∀ b' o', r.A = some ⟨b', o', none⟩ → b' ≠ g
/-- how relations lie -/
def RelsLie (w : World) (A : Option Addr) (rs : List RelV) (g n : Nat) : Prop := rs.length ≤ 1000000 ∧ (∀ r ∈ rs, relB r.d r.vs n = true) ∧ (0 < rs.length → ∃ b o, A = some ⟨b, o, none⟩ ∧ b < w.heap.size ∧ b ≠ g ∧ ∀ i (h : i < rs.length), RelLies w b (o + i * 3) g n rs[i])
theorem ints_kept {g : Nat} {w w' : World} {A : Option Addr} {xs : List Int} (h : Ints w A xs) (k : KeptBut g w w') (hA : ∀ b o, A = some ⟨b, o, none⟩ → b ≠ g) : Ints w' A xs :=
  ⟨h.1, h.2.1, fun hp => by
    obtain ⟨b, off, e, hb, hc⟩ := h.2.2 hp
    refine ⟨b, off, e, Nat.lt_of_lt_of_le hb k.1.size, fun i hi => ?_⟩
    rw [← hc i hi]
    simp only [World.cell?, k.2 b hb (hA b off e)]⟩
theorem KeptBut.cell {g : Nat} {w w' : World} (k : KeptBut g w w') {b o : Nat} (hb : b < w.heap.size) (hn : b ≠ g) : w'.cell? ⟨b, o, none⟩ = w.cell? ⟨b, o, none⟩ := by
  simp only [World.cell?, k.2 b hb hn]
theorem RelLies.kept {w w' : World} {b o g n : Nat} {r : RelV} (h : RelLies w b o g n r) (k : KeptBut g w w') (hb : b < w.heap.size) (hn : b ≠ g) : RelLies w' b o g n r :=
  ⟨(k.cell hb hn).trans h.1, (k.cell hb hn).trans h.2.1, (k.cell hb hn).trans h.2.2.1, h.2.2.2.1, h.2.2.2.2.1, ints_kept h.2.2.2.2.2.1 k h.2.2.2.2.2.2, h.2.2.2.2.2.2⟩
def chN : Value → Nat
  | .bool true => 1
  | _ => 0
/-- how far settling has come -/
def Far (rs : List RelV) (n : Nat) (F : Nat → BdV) (ch : Bool) (G : Nat → BdV) : Prop := (ch = true ∧ ∀ b H, Sett rs n G b H → Sett rs n F b H) ∨ (ch = false ∧ Sett rs n F true G)
/-- what settling answers -/
def SettRes (rs : List RelV) (g n : Nat) (F : Nat → BdV) (w : World) (e : Ending) (w' : World) : Prop := ∃ b H, Sett rs n F b H ∧ e = .returned (.bool b) ∧ KeptBut g w w' ∧ (b = true → BRow w' g n H ∧ Fine H)
set_option maxRecDepth 100000 in
set_option maxHeartbeats 16000000 in
theorem settle_any {A : Option Addr} {rs : List RelV} {rc g n cap : Nat} {F : Nat → BdV} (w : World) (hn : n ≤ 1000000) (hrs : RelsLie w A rs g n) (hr : BRow w g n F) (hF : Fine F) :
    Calls Tryd.prog 62 #[.slice A rs.length rc, .slice (some ⟨g, 0, none⟩) n cap] w (SettRes rs g n F w) := by
  have hg : g < w.heap.size := World.rowIs.lt hr
  have HRS := Lib.hid hrs
  have HR := Lib.hid hr
  have HF := Lib.hid hF
  have hlr := hrs.1
  clear hrs hr hF
  go_enter Tryd.func62, Tryd.ntmps62
  go_wp2_with fail
  go_loopw [5] (fun c wr => ∃ (ch : Bool) (G : Nat → BdV), c = .bool ch ∧ Fine G ∧ BRow wr g n G ∧ KeptBut g w wr ∧ Far rs n F ch G) (fun c wr => sumM (rdB wr g) n + chN c)
  case atStart => exact ⟨true, F, rfl, HF.out, HR.out, KeptBut.refl _ _, .inl ⟨rfl, fun _ _ h => h⟩⟩
  case round =>
    obtain ⟨ch, G, rfl, hfg, hrow, hk, hfar⟩ := hrel
    have FG := Lib.hid hfg
    have RG := Lib.hid hrow
    have KG := Lib.hid hk
    rcases hfar with ⟨rfl, hfar⟩ | ⟨rfl, hfar⟩
    · have FAR := Lib.hid hfar
      clear hfg hrow hk hfar
      have CL := Lib.hid (cloneB_any G g n cap wr hn (BRow.cells RG.out))
      go_wp2_with fail
      refine CL.out.mono ?_
      rintro e w1 ⟨g', cc, rfl, hg', hcp, hbl⟩
      have hgr : g < wr.heap.size := World.rowIs.lt RG.out
      have K1 := Lib.hid (show KeptBut g wr w1 from KeptBut.of_below hbl (Nat.le_of_lt hgr))
      have R1 := Lib.hid (RG.out.at (hbl.block g hgr))
      have CP := Lib.hid hcp
      have hne : g' ≠ g := by omega
      have hws : w.heap.size ≤ wr.heap.size := KG.out.1.size
      have RDO := Lib.hid (show sumM (rdB wr g) n = sumM G n from sum_read n fun i hi => RG.out.read hi)
      clear CL hcp hbl
      go_wp2_with fail
      go_loopw [14] (fun i wx => ∃ (q : Nat) (H : Nat → BdV), q ≤ rs.length ∧ i = .int .i64 q ∧ Fine H ∧ BRow wx g n H ∧ KeptBut g w1 wx ∧ passF (rs.drop q) H = passF rs G) (fun i _ => rs.length - (intOf i).toNat)
      case atStart => exact ⟨0, G, Nat.zero_le _, rfl, FG.out, R1.out, KeptBut.refl _ _, rfl⟩
      case round =>
        obtain ⟨q, H, hq, rfl, hfh, hrow, hk, hps⟩ := hrel
        have FH := Lib.hid hfh
        have RH := Lib.hid hrow
        have KH := Lib.hid hk
        have PS := Lib.hid hps
        clear hfh hrow hk hps
        by_cases hlt : q < rs.length
        · obtain ⟨b, o, rfl, hb, hbn, hl⟩ := HRS.out.2.2 (by omega)
          have KW := Lib.hid (KG.out.trans (K1.out.trans KH.out))
          have RL := Lib.hid ((hl q hlt).kept KW.out hb hbn)
          have HD := Lib.hid (show rs.drop q = rs[q] :: rs.drop (q + 1) from List.drop_eq_getElem_cons hlt)
          have HIN := Lib.hid (HRS.out.2.1 _ (List.getElem_mem hlt))
          clear hl
          generalize rs[q] = r at *
          have a0 := RL.out.1
          have a1 := RL.out.2.1
          have a2 := RL.out.2.2.1
          have z1 : (q : Int) < (rs.length : Int) := by omega
          have z2 : (0 : Int) ≤ (q : Int) := by omega
          go_wp2_with fail
          have hgx : g < wr.heap.size := World.rowIs.lt RH.out
          have B2 := Lib.hid (show Below wr.heap.size wr (wr.alloc (.cells #[.string r.k, .slice r.A r.vs.length r.c, .int .i64 r.N] 38)) from (Below.refl _ wr).alloc (Nat.le_refl _) _)
          generalize (wr.alloc (.cells #[.string r.k, .slice r.A r.vs.length r.c, .int .i64 r.N] 38)) = W0 at *
          have K2 := Lib.hid (KeptBut.of_below B2.out (Nat.le_of_lt hgx))
          have R2 := Lib.hid (RH.out.at (B2.out.block g hgx))
          have RL2 := Lib.hid (RL.out.kept K2.out (Nat.lt_of_lt_of_le hb KW.out.1.size) hbn)
          have KX := Lib.hid (KH.out.trans K2.out)
          refine (follow_any r.k r.d RL2.out.2.2.2.1 r.vs r.N r.A r.c cap g n H W0 RL2.out.2.2.2.2.2.1 HIN.out R2.out FH.out.bits FH.out.most RL2.out.2.2.2.2.2.2).mono ?_
          rintro e w2 ⟨rfl, hk2, hr2⟩
          have PN := Lib.hid (show passF (rs.drop q) H = if (followF r.d r.vs r.N H).1 = true then passF (rs.drop (q + 1)) (followF r.d r.vs r.N H).2 else (false, H) from by rw [HD.out]; rfl)
          have FS := Lib.hid (fun h => by
            obtain ⟨m, hm, hl, _⟩ := relV_parts HIN.out
            exact follow_stp (n := r.N) hm hl FH.out h)
          have K3 := Lib.hid hk2
          have R3 := Lib.hid hr2
          clear hk2 hr2 a0 a1 a2 RL RL2 KW HD HIN K2 R2 B2
          generalize followF r.d r.vs r.N H = R at *
          obtain ⟨ok, H2⟩ := R
          cases ok with
          | false =>
            go_wp2_with fail
            refine bodyPost_ret (v := .bool false) (by simp [results, Tryd.results62, go_sem]) rfl ?_
            have hp : (passF rs G).1 = false := by rw [← PS.out, PN.out]; rfl
            exact ⟨false, G, FAR.out _ _ (Sett.fail hp), rfl, KG.out.trans (K1.out.trans (KX.out.trans K3.out)), fun h => by cases h⟩
          | true =>
            go_wp2_with fail
            go_roundw
            case rel =>
              exact ⟨q + 1, H2, by omega, by go_num, (FS.out (by simp)).2, R3.out (by simp), KX.out.trans K3.out, by rw [← PS.out, PN.out]; rfl⟩
            case measure => simp [intOf]; omega
        · obtain rfl : q = rs.length := by omega
          have hp : passF rs G = (true, H) := by rw [← PS.out, List.drop_length]; rfl
          have PP := Lib.hid hp
          have ST := Lib.hid (pass_stp rs G (fun r hr => by
            obtain ⟨m, hm, hl, _⟩ := relV_parts (HRS.out.2.1 r hr)
            exact ⟨m, hm, hl⟩) FG.out (by rw [hp]))
          have CW := Lib.hid (CP.out.at (KH.out.2 g' CP.out.1 hne) KH.out.1.size)
          have hgx : g < wr.heap.size := World.rowIs.lt RH.out
          clear hp
          go_wp2_with fail
          refine (equalB_any wr hn (BRow.cells RH.out) CW.out).mono ?_
          rintro e w2 ⟨⟨b, rfl, hbq⟩, hbl⟩
          have BQ := Lib.hid hbq
          have K4 := Lib.hid (KG.out.trans (K1.out.trans (KH.out.trans (KeptBut.of_below hbl (Nat.le_of_lt hgx)))))
          have R4 := Lib.hid (RH.out.at (hbl.block g hgx))
          clear hbq hbl CW
          cases b with
          | true =>
            go_wp2_with fail
            have hs : sameB H G n := BQ.out.1 (by simp)
            refine ⟨⟨false, H, rfl, ?_, R4.out, K4.out, .inr ⟨rfl, FAR.out _ _ ?_⟩⟩, ?_⟩
            · have := ST.out.2; rwa [PP.out] at this
            · have := Sett.done (rs := rs) (n := n) (F := G) (by rw [PP.out]) (by rw [PP.out]; exact hs)
              rwa [PP.out] at this
            · rw [show sumM (rdB w2 g) n = sumM H n from sum_read n fun i hi => R4.out.read hi, RDO.out, sum_read n hs]
              simp [chN]
          | false =>
            go_wp2_with fail
            have hs : ¬ sameB H G n := fun h => absurd (BQ.out.2 h) (by simp)
            have hf : Fine H := by have := ST.out.2; rwa [PP.out] at this
            have hnar : ∀ i, nar (H i) (G i) := by have := ST.out.1; rwa [PP.out] at this
            refine ⟨⟨true, H, rfl, hf, R4.out, K4.out, .inl ⟨rfl, fun b' H' k => FAR.out _ _ ?_⟩⟩, ?_⟩
            · exact Sett.next (by rw [PP.out]) (by rw [PP.out]; exact hs) (by rw [PP.out]; exact k)
            · rw [show sumM (rdB w2 g) n = sumM H n from sum_read n fun i hi => R4.out.read hi, RDO.out]
              have := sum_lt FG.out hf hnar n hs
              simp only [chN]; omega
    · have FA := Lib.hid hfar
      clear hfar hfg hrow hk
      go_wp2_with fail
      refine bodyPost_ret (v := .bool true) (by simp [results, Tryd.results62, go_sem]) rfl ?_
      exact ⟨true, G, FA.out, rfl, KG.out, fun _ => ⟨RG.out, FG.out⟩⟩
end Go.Proofs.YthakhdbakmlooaaDoor

/-
  Families and relations as they lie; whether all are valid.
-/
namespace Go.Proofs.YthakhdbakmlooaaDoor
set_option linter.unusedSimpArgs false
open Go Go.RowKit Go.Shelf Go.Ev

/-- a family as it lies -/
structure FamV where
  lo : List Int
  hi : List Int
  mn : Int
  mx : Int
  A : Option Addr
  B : Option Addr
  c1 : Nat
  c2 : Nat
def FamV.ok (f : FamV) : Bool := validFB f.lo f.hi f.mn f.mx
def FamV.agg (f : FamV) : Value := .agg #[.slice f.A f.lo.length f.c1, .slice f.B f.hi.length f.c2, .int .i64 f.mn, .int .i64 f.mx]
def FamLies (w : World) (b o : Nat) (f : FamV) : Prop := w.cell? ⟨b, o, none⟩ = some (.slice f.A f.lo.length f.c1) ∧ w.cell? ⟨b, o + 1, none⟩ = some (.slice f.B f.hi.length f.c2) ∧ w.cell? ⟨b, o + 2, none⟩ = some (.int .i64 f.mn) ∧ w.cell? ⟨b, o + 3, none⟩ = some (.int .i64 f.mx) ∧ Ints w f.A f.lo ∧ Ints w f.B f.hi
def FamsLie (w : World) (A : Option Addr) (fs : List FamV) : Prop := fs.length ≤ 1000000 ∧ (0 < fs.length → ∃ b o, A = some ⟨b, o, none⟩ ∧ b < w.heap.size ∧ ∀ i (h : i < fs.length), FamLies w b (o + i * 4) fs[i])
theorem FamLies.over {w w' : World} {b o : Nat} {f : FamV} (h : FamLies w b o f) (hb : b < w.heap.size) (k : Below w.heap.size w w') : FamLies w' b o f :=
  ⟨(k.cell (p := ⟨b, o, none⟩) hb).trans h.1, (k.cell (p := ⟨b, o + 1, none⟩) hb).trans h.2.1, (k.cell (p := ⟨b, o + 2, none⟩) hb).trans h.2.2.1, (k.cell (p := ⟨b, o + 3, none⟩) hb).trans h.2.2.2.1, h.2.2.2.2.1.over k, h.2.2.2.2.2.over k⟩
theorem FamsLie.over {w w' : World} {A : Option Addr} {fs : List FamV} (h : FamsLie w A fs) (k : Below w.heap.size w w') : FamsLie w' A fs :=
  ⟨h.1, fun hp => by
    obtain ⟨b, o, e, hb, hf⟩ := h.2 hp
    exact ⟨b, o, e, Nat.lt_of_lt_of_le hb k.size, fun i hi => (hf i hi).over hb k⟩⟩
def RelV.ok (r : RelV) (n : Nat) : Bool := relB r.d r.vs n
def RelV.agg (r : RelV) : Value := .agg #[.string r.k, .slice r.A r.vs.length r.c, .int .i64 r.N]
def RelLie (w : World) (b o : Nat) (r : RelV) : Prop := w.cell? ⟨b, o, none⟩ = some (.string r.k) ∧ w.cell? ⟨b, o + 1, none⟩ = some (.slice r.A r.vs.length r.c) ∧ w.cell? ⟨b, o + 2, none⟩ = some (.int .i64 r.N) ∧ KF r.k.toList r.d ∧ Ints w r.A r.vs
def RelsL (w : World) (A : Option Addr) (rs : List RelV) : Prop := rs.length ≤ 1000000 ∧ (0 < rs.length → ∃ b o, A = some ⟨b, o, none⟩ ∧ b < w.heap.size ∧ ∀ i (h : i < rs.length), RelLie w b (o + i * 3) rs[i])
theorem RelLie.over {w w' : World} {b o : Nat} {r : RelV} (h : RelLie w b o r) (hb : b < w.heap.size) (k : Below w.heap.size w w') : RelLie w' b o r :=
  ⟨(k.cell (p := ⟨b, o, none⟩) hb).trans h.1, (k.cell (p := ⟨b, o + 1, none⟩) hb).trans h.2.1, (k.cell (p := ⟨b, o + 2, none⟩) hb).trans h.2.2.1, h.2.2.2.1, h.2.2.2.2.over k⟩
theorem RelsL.over {w w' : World} {A : Option Addr} {rs : List RelV} (h : RelsL w A rs) (k : Below w.heap.size w w') : RelsL w' A rs :=
  ⟨h.1, fun hp => by
    obtain ⟨b, o, e, hb, hf⟩ := h.2 hp
    exact ⟨b, o, e, Nat.lt_of_lt_of_le hb k.size, fun i hi => (hf i hi).over hb k⟩⟩
set_option maxRecDepth 100000 in
set_option maxHeartbeats 4000000 in
theorem valid1_any (f : FamV) (w : World) (ha : Ints w f.A f.lo) (hb : Ints w f.B f.hi) :
    Calls Tryd.prog 78 #[f.agg] w fun e w' => e = .returned (.bool (!f.ok)) ∧ Below w.heap.size w w' := by
  obtain ⟨lo, hi, mn, mx, A, B, c1, c2⟩ := f
  have C := Lib.hid (fun w1 (h : Below w.heap.size w w1) => FValid_p_any lo hi mn mx A B c1 c2 w1 (ha.over h) (hb.over h))
  clear ha hb
  unfold FamV.agg FamV.ok
  dsimp only
  generalize validFB lo hi mn mx = R at *
  go_enter Tryd.func78, Tryd.ntmps78
  go_wp2_with fail
  refine (C.out _ ((Below.refl _ w).alloc (Nat.le_refl _) _)).mono ?_
  rintro e w1 ⟨rfl, hbl⟩
  have BL := Lib.hid (show Below w.heap.size w w1 from ((Below.refl _ w).alloc (Nat.le_refl _) _).trans (hbl.mono (by simp)))
  clear C hbl
  go_wp2_with fail
  go_ret
  exact ⟨rfl, BL.out⟩
set_option maxRecDepth 100000 in
set_option maxHeartbeats 4000000 in
theorem valid2_any (r : RelV) (n lb : Nat) (L : Option Addr) (c : Nat) (w : World) (hk : KF r.k.toList r.d) (ha : Ints w r.A r.vs) (hl : w.cell? ⟨lb, 0, none⟩ = some (.slice L n c)) (hlb : lb < w.heap.size) :
    Calls Tryd.prog 80 #[r.agg, .pointer (some ⟨lb, 0, none⟩)] w fun e w' => e = .returned (.bool (!r.ok n)) ∧ Below w.heap.size w w' := by
  obtain ⟨k, d, vs, N, A, cc⟩ := r
  have C := Lib.hid (fun w1 (h : Below w.heap.size w w1) => ValidRel_p_any k d hk vs N n A cc w1 (ha.over h))
  have CL := Lib.hid (fun w1 (h : Below w.heap.size w w1) => (h.cell (p := ⟨lb, 0, none⟩) hlb).trans hl)
  clear ha hk hl
  unfold RelV.agg RelV.ok
  dsimp only
  generalize relB d vs n = R at *
  go_enter Tryd.func80, Tryd.ntmps80
  have x := CL.out (w.alloc (.cells #[.string k, .slice A vs.length cc, .int .i64 N] 38)) ((Below.refl _ w).alloc (Nat.le_refl _) _)
  go_wp2_with fail
  refine (C.out _ ((Below.refl _ w).alloc (Nat.le_refl _) _)).mono ?_
  rintro e w1 ⟨rfl, hbl⟩
  have BL := Lib.hid (show Below w.heap.size w w1 from ((Below.refl _ w).alloc (Nat.le_refl _) _).trans (hbl.mono (by simp)))
  clear C hbl
  go_wp2_with fail
  go_ret
  exact ⟨rfl, BL.out⟩
end Go.Proofs.YthakhdbakmlooaaDoor
