/-
  The law of domains' texts returns true.
-/
import Derived.Test.YtjhlodbhchdkbaaGreatDoorDtL
import Derived.Test.YtjhlodbhchdkbaaGreatDoorDsF
import Derived.Test.YtjhlodbhchdkbaaGreatDoorAwLaw
namespace Go.Proofs.YtjhlodbhchdkbaaGreatDoor
set_option linter.unusedSimpArgs false
set_option linter.unusedVariables false
open Go Go.RowKit Go.Lib Go.Ev

def PairsU (w : World) (A : Option Addr) (d : List (Int × Int)) : Prop := (∀ x ∈ d, (-9223372036854775808 ≤ x.1 ∧ x.1 ≤ 9223372036854775807) ∧ -9223372036854775808 ≤ x.2 ∧ x.2 ≤ 9223372036854775807) ∧
  (0 < d.length → ∃ b off, A = some ⟨b, off, none⟩ ∧ b < w.heap.size ∧ ∀ i (h : i < d.length), w.cell? ⟨b, off + i * 2, none⟩ = some (.int .i64 d[i].1) ∧ w.cell? ⟨b, off + i * 2 + 1, none⟩ = some (.int .i64 d[i].2))
theorem PairsU.small {w : World} {A : Option Addr} {d : List (Int × Int)} (h : PairsU w A d) (hl : d.length ≤ 1000000) : Pairs w A d := ⟨hl, h.1, h.2⟩
theorem txD_len (q : List (Int × Int)) (h : vd 0 q = true) : q.length ≤ (txD q).length + 1 := by
  unfold txD
  by_cases h0 : q = []
  · subst h0; simp
  · rw [if_neg h0]
    cases q with
    | nil => exact absurd rfl h0
    | cons x r =>
      have := tailJ_len r
      show r.length + 1 ≤ (rgT x ++ tailJ r).length + 1
      rw [List.length_append]
      omega
theorem parse_facts {l : List UInt8} {q : List (Int × Int)} (h : parseP l = some q) (hl : l.length ≤ 999000) : q.length ≤ 1000000 ∧ ∀ x ∈ q, (-9223372036854775808 ≤ x.1 ∧ x.1 ≤ 9223372036854775807) ∧ -9223372036854775808 ≤ x.2 ∧ x.2 ≤ 9223372036854775807 := by
  obtain ⟨h1, h2⟩ := (parseP_iff l q).1 h
  refine ⟨?_, fun x hx => ?_⟩
  · have := txD_len q h1
    rw [← h2] at this
    omega
  · have := vd_inR q 0 (by decide) h1 x hx
    unfold InR at this
    omega
def errP (o : Option (List (Int × Int))) : Int := match o with | some _ => 0 | none => 3
theorem parse_open {l : List UInt8} {o : Option (List (Int × Int))} (ho : parseP l = o) (hl : l.length ≤ 999000) {w w1 : World} (hb : Below w.heap.size w w1) {e : Ending} {w' : World} (h : ParseRes o w1.heap.size w1 e w') :
    ∃ G cap, e = .returned (.tuple #[.slice G (o.getD []).length cap, .int .i64 (errP o)]) ∧ Pairs w' G (o.getD []) ∧ Below w.heap.size w w' ∧ Below w1.heap.size w1 w' := by
  obtain ⟨h1, h2⟩ := h
  have h3 := hb.trans (h2.mono hb.size)
  cases o with
  | none => exact ⟨none, 0, h1, ⟨by simp, fun x hx => by simp at hx, fun hp => by simp at hp⟩, h3, h2⟩
  | some q =>
    obtain ⟨v, he, hv⟩ := h1
    obtain ⟨f1, f2⟩ := parse_facts ho hl
    obtain ⟨G, cap, rfl, hp⟩ := pairs_of_owns hv f1 f2
    exact ⟨G, cap, he, hp, h3, h2⟩
theorem st_of (s : ByteArray) : st s.data.toList = s := by
  apply ByteArray.ext
  simp [st]
theorem lib_lt {w : World} (h : LibD w) : 3 < w.heap.size := by
  obtain ⟨⟨m, hm⟩, _⟩ := h
  rcases Nat.lt_or_ge 3 w.heap.size with h' | h'
  · exact h'
  · simp [World.cell?, Array.getElem?_eq_none h'] at hm
theorem same_anyX (xs : List (Int × Int)) (A B : Option Addr) (c1 c2 : Nat) (w : World) (ha : Pairs w A xs) (hb : Pairs w B xs) :
    Calls Tryz.prog 9 #[.slice A xs.length c1, .slice B xs.length c2] w fun e w' => e = .returned (.bool true) ∧ Below w.heap.size w w' := by
  have h := SameDom_any xs xs A B c1 c2 w ha hb
  rw [decide_eq_true rfl] at h
  exact h
set_option maxRecDepth 100000 in
set_option maxHeartbeats 4000000 in
theorem large_anyX (d : List (Int × Int)) (s : ByteArray) (A : Option Addr) (c : Nat) (w : World) (hT : TabIn w) (h : d.length > 600 ∨ s.size > 10000) :
    Calls Tryz.prog 3 #[.slice A d.length c, .string s] w fun e w' => e = .returned (.bool true) ∧ Below w.heap.size w w' := by
  have AW := Lib.hid (awake_any w hT)
  clear hT
  generalize d.length = n1 at *
  by_cases h1 : (n1 : Int) > 600
  · clear h
    go_enter Tryz.func3, Tryz.ntmps3
    go_wp2_with (go_at_call 4; refine AW.out.mono ?_; rintro e w1 ⟨rfl, hb⟩; have HB := Lib.hid hb; clear hb)
    go_ret
    exact ⟨rfl, HB.out⟩
  · have h3 : (s.size : Int) > 10000 := by omega
    clear h
    go_enter Tryz.func3, Tryz.ntmps3
    go_wp2_with (go_at_call 4; refine AW.out.mono ?_; rintro e w1 ⟨rfl, hb⟩; have HB := Lib.hid hb; clear hb)
    go_ret
    exact ⟨rfl, HB.out⟩
set_option maxRecDepth 100000 in
set_option maxHeartbeats 8000000 in
theorem small_anyX (d : List (Int × Int)) (s : ByteArray) (A : Option Addr) (c : Nat) (w : World) (hT : TabIn w) (hL : LibD w) (ha : Pairs w A d) (h1 : d.length ≤ 600) (h2 : s.size ≤ 10000) :
    Calls Tryz.prog 3 #[.slice A d.length c, .string s] w fun e w' => e = .returned (.bool true) ∧ Below w.heap.size w w' := by
  have hTb : ∀ {w1}, Below w.heap.size w w1 → TabIn w1 := fun h => hT.below h hT.lt
  have hsl : s.data.toList.length ≤ 999000 := by simp; omega
  have TP := Lib.hid (fun w1 (h : Below w.heap.size w w1) => (Text_any d A c w1 (ha.over h) (hL.over h).2.1))
  have TR := Lib.hid (fun w1 (h : Below w.heap.size w w1) => (Text_r_any d A c w1 (ha.over h)))
  obtain ⟨o, ho⟩ : ∃ o, parseP s.data.toList = o := ⟨_, rfl⟩
  have PP := Lib.hid (fun w1 (h : Below w.heap.size w w1) => (callsIn_wide.1 (Parse_in 4 (by omega) s.data.toList hsl w1 (hL.over h) (Nat.lt_of_lt_of_le (lib_lt hL) h.size))).mono fun e w' k => parse_open rfl hsl h k)
  have PR := Lib.hid (fun w1 (h : Below w.heap.size w w1) => (ParseD_any s (by omega) w1).mono fun e w' k => parse_open rfl hsl h (by rw [← parse_both]; exact k))
  have PB := Lib.hid (fun (hv : vd 0 d = true) w1 (h : Below w.heap.size w w1) => (callsIn_wide.1 (Parse_in 4 (by omega) (txD d) (by
    unfold txD
    split
    · simp
    · have := jnT_len d; omega) w1 (hL.over h) (Nat.lt_of_lt_of_le (lib_lt hL) h.size))).mono fun e w' k => parse_open (o := some d) ((parseP_iff (txD d) d).2 ⟨hv, rfl⟩) (by
    unfold txD
    split
    · simp
    · have := jnT_len d; omega) h (by rw [(parseP_iff (txD d) d).2 ⟨hv, rfl⟩] at k; exact k))
  rw [ho, st_of] at PP
  rw [ho] at PR
  clear ho
  obtain ⟨q, hq⟩ : ∃ q, o.getD [] = q := ⟨_, rfl⟩
  obtain ⟨eq, heq⟩ : ∃ x, errP o = x := ⟨_, rfl⟩
  rw [hq, heq] at PP PR
  clear hq heq
  have AW := Lib.hid (fun w1 (h : Below w.heap.size w w1) => awake_any w1 (hTb h))
  have HA := Lib.hid (fun w1 (h : Below w.heap.size w w1) => ha.over h)
  have z1 : (d.length : Int) ≤ 600 := by omega
  have z2 : (s.size : Int) ≤ 10000 := by omega
  unfold TextRes at TP TR
  clear ha hT hTb hL hsl h1 h2
  cases hv : vd 0 d with
  | true =>
    rw [hv] at TP TR
    simp only [if_true] at TP TR
    have PB := Lib.hid (PB.out hv)
    have EQ := Lib.hid (show (some d).getD [] = d from rfl)
    rw [show (some d).getD [] = d from rfl, show errP (some d) = 0 from rfl] at PB
    clear hv
    go_enter Tryz.func3, Tryz.ntmps3
    go_wp2_with (first
      | (go_at_call 5; refine (TP.out _ (Below.refl _ _)).mono ?_; rintro e w1 ⟨rfl, hb⟩; have HB := Lib.hid hb; clear hb TP)
      | (go_at_call 6; refine (TR.out _ HB.out).mono ?_; rintro e w2 ⟨rfl, hb⟩; have HB := Lib.hid (HB.out.trans (hb.mono HB.out.size)); clear hb TR)
      | (go_at_call 7; refine (PP.out _ HB.out).mono ?_; rintro e w3 ⟨G1, k1, rfl, hp, hb, _⟩; have HC := Lib.hid hp; have HB := Lib.hid hb; clear hp hb PP)
      | (go_at_call 8; refine (PR.out _ HB.out).mono ?_; rintro e w4 ⟨G2, k2, rfl, hp, hb, ho⟩; have HD := Lib.hid hp; have HC := Lib.hid (HC.out.over ho); have HB := Lib.hid hb; clear hp hb ho PR)
      | (go_at_call 9; refine (same_anyX _ _ _ _ _ _ HC.out HD.out).mono ?_; rintro e w5 ⟨rfl, hb⟩; have HB := Lib.hid (HB.out.trans (hb.mono HB.out.size)); clear hb HC HD)
      | (go_at_call 7; refine (PB.out _ HB.out).mono ?_; rintro e w6 ⟨G3, k3, rfl, hp, hb, _⟩; have HC := Lib.hid hp; have HB := Lib.hid hb; have HD := Lib.hid (HA.out _ hb); clear hp hb PB)
      | (go_at_call 4; refine (AW.out _ HB.out).mono ?_; rintro e w7 ⟨rfl, hb⟩; have HB := Lib.hid (HB.out.trans (hb.mono HB.out.size)); clear hb AW))
    go_ret
    exact ⟨rfl, HB.out⟩
  | false =>
    rw [hv] at TP TR
    simp only [Bool.false_eq_true, if_false] at TP TR
    clear PB hv
    go_enter Tryz.func3, Tryz.ntmps3
    go_wp2_with (first
      | (go_at_call 5; refine (TP.out _ (Below.refl _ _)).mono ?_; rintro e w1 ⟨rfl, hb⟩; have HB := Lib.hid hb; clear hb TP)
      | (go_at_call 6; refine (TR.out _ HB.out).mono ?_; rintro e w2 ⟨rfl, hb⟩; have HB := Lib.hid (HB.out.trans (hb.mono HB.out.size)); clear hb TR)
      | (go_at_call 7; refine (PP.out _ HB.out).mono ?_; rintro e w3 ⟨G1, k1, rfl, hp, hb, _⟩; have HC := Lib.hid hp; have HB := Lib.hid hb; clear hp hb PP)
      | (go_at_call 8; refine (PR.out _ HB.out).mono ?_; rintro e w4 ⟨G2, k2, rfl, hp, hb, ho⟩; have HD := Lib.hid hp; have HC := Lib.hid (HC.out.over ho); have HB := Lib.hid hb; clear hp hb ho PR)
      | (go_at_call 9; refine (same_anyX _ _ _ _ _ _ HC.out HD.out).mono ?_; rintro e w5 ⟨rfl, hb⟩; have HB := Lib.hid (HB.out.trans (hb.mono HB.out.size)); clear hb HC HD)
      | (go_at_call 4; refine (AW.out _ HB.out).mono ?_; rintro e w7 ⟨rfl, hb⟩; have HB := Lib.hid (HB.out.trans (hb.mono HB.out.size)); clear hb AW))
    go_ret
    exact ⟨rfl, HB.out⟩
theorem DomainTexts_any (d : List (Int × Int)) (s : ByteArray) (A : Option Addr) (c : Nat) (w : World) (hT : TabIn w) (hL : LibD w) (ha : PairsU w A d) :
    Calls Tryz.prog 3 #[.slice A d.length c, .string s] w fun e w' => e = .returned (.bool true) ∧ Below w.heap.size w w' := by
  by_cases h : d.length > 600 ∨ s.size > 10000
  · exact large_anyX d s A c w hT h
  · exact small_anyX d s A c w hT hL (ha.small (by omega)) (by omega) (by omega)
end Go.Proofs.YtjhlodbhchdkbaaGreatDoor
