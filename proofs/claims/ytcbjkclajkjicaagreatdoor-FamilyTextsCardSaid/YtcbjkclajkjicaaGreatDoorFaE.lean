/-
  Sets as words: what the two sides make of a list of elements.
-/
import Derived.Laws.Bits64b
import Derived.Test.YtcbjkclajkjicaaGreatDoorFaC
import Derived.Test.YtcbjkclajkjicaaGreatDoorDsZ
import Derived.Test.YtcbjkclajkjicaaGreatDoorFaD
import Derived.Laws.Bits128
import Derived.Test.YtcbjkclajkjicaaGreatDoorFrC
namespace Go.Proofs.YtcbjkclajkjicaaGreatDoor
set_option linter.unusedSimpArgs false
open Go Go.RowKit Go.Ev

/-- a list's elements as a word -/
def setN (l : List Int) : Nat := l.foldl (fun s n => s ||| 2 ^ n.toNat) 0
theorem setN_snoc (l : List Int) (x : Int) : setN (l ++ [x]) = setN l ||| 2 ^ x.toNat := by simp [setN]
theorem two_lt {t : Nat} (ht : t < 64) : 2 ^ t < 18446744073709551616 := Nat.pow_lt_pow_right (n := 64) (by decide) ht
theorem fold_lt : ∀ (l : List Int) (s : Nat), s < 18446744073709551616 → l.all inR = true → l.foldl (fun s n => s ||| 2 ^ n.toNat) s < 18446744073709551616
  | [], _, h, _ => h
  | x :: l, s, h, ha => by
    rw [List.all_cons, Bool.and_eq_true] at ha
    have hx : x.toNat < 64 := by have := ha.1; simp only [inR, Bool.and_eq_true, decide_eq_true_eq] at this; omega
    exact fold_lt l _ (Nat.or_lt_two_pow (n := 64) h (two_lt hx)) ha.2
theorem setN_lt {l : List Int} (h : l.all inR = true) : setN l < 18446744073709551616 := fold_lt l 0 (by decide) h
theorem fold_test (v : Nat) : ∀ (l : List Int) (s : Nat), l.all inR = true → (l.foldl (fun s n => s ||| 2 ^ n.toNat) s).testBit v = (s.testBit v || l.contains (v : Int))
  | [], s, _ => by simp
  | x :: l, s, ha => by
    rw [List.all_cons, Bool.and_eq_true] at ha
    have hx : 0 ≤ x := by have := ha.1; simp only [inR, Bool.and_eq_true, decide_eq_true_eq] at this; omega
    rw [List.foldl_cons, fold_test v l _ ha.2, Nat.testBit_or, Nat.testBit_two_pow, List.contains_cons, Bool.or_assoc]
    congr 2
    rw [Bool.eq_iff_iff, decide_eq_true_eq, beq_iff_eq]
    omega
theorem setN_test {l : List Int} (h : l.all inR = true) (v : Nat) : (setN l).testBit v = l.contains (v : Int) := by
  have := fold_test v l 0 h
  simpa [setN] using this
theorem one_shl' (t : Nat) (ht : t < 64) : IntKind.u64.wrap ((2 : Int) ^ t) = ((2 ^ t : Nat) : Int) := by
  have h := two_lt ht
  have e : ((2 : Int) ^ t) = ((2 ^ t : Nat) : Int) := by simp
  rw [IntKind.wrap_u64, e]
  generalize (2 ^ t : Nat) = P at *
  omega
theorem all_take {l : List Int} (h : l.all inR = true) (k : Nat) : (l.take k).all inR = true := by
  rw [List.all_eq_true] at h ⊢
  exact fun x hx => h x (List.mem_of_mem_take hx)
set_option maxRecDepth 100000 in
set_option maxHeartbeats 2000000 in
theorem fsetOf_any (l : List Int) (A : Option Addr) (c : Nat) (w : World) (ha : Ints w A l) (hR : l.all inR = true) :
    Calls Tryz.prog 45 #[.slice A l.length c] w fun e w' => e = .returned (.int .u64 (setN l : Nat)) ∧ w' = w := by
  have hll := ha.1
  have HA := Lib.hid ha.2.2
  have HI := Lib.hid hR
  clear ha hR
  go_enter Tryz.func45, Tryz.ntmps45
  go_wp2_with fail
  go_loopw [2, 4, 7] (fun s _ i wr => ∃ k : Nat, k ≤ l.length ∧ i = .int .i64 k ∧ s = .int .u64 (setN (l.take k) : Nat) ∧ wr = w) (fun _ _ i _ => l.length - (intOf i).toNat)
  case atStart => exact ⟨0, Nat.zero_le _, rfl, rfl, rfl⟩
  case round =>
    obtain ⟨k, hk, rfl, rfl, rfl⟩ := hrel
    by_cases hlt : k < l.length
    · obtain ⟨b1, o1, rfl, hb1', g1⟩ := HA.out (by omega)
      have x1 := g1 k hlt
      have TK := Lib.hid (show l.take (k + 1) = l.take k ++ [l[k]] from List.take_succ_eq_append_getElem hlt)
      have hx : inR l[k] = true := List.all_eq_true.1 HI.out _ (List.getElem_mem hlt)
      clear g1 HA
      generalize l[k] = x at *
      have hx2 : 0 ≤ x ∧ x ≤ 63 := by simpa [inR] using hx
      obtain ⟨v, rfl⟩ : ∃ v : Nat, x = v := ⟨x.toNat, by omega⟩
      have HO := Lib.hid (show bits .or .u64 ((setN (l.take k) : Nat) : Int) (IntKind.u64.wrap (2 ^ v)) = ((setN (l.take k) ||| 2 ^ v : Nat) : Int) by
        rw [one_shl' v (by omega)]
        exact bits_or_u64_nat _ _ (setN_lt (all_take HI.out k)) (two_lt (by omega)))
      have z1 : (k : Int) < (l.length : Int) := by omega
      have z2 : (0 : Int) ≤ (k : Int) := by omega
      have z3 : (0 : Int) ≤ (v : Int) := by omega
      have MN := Lib.hid (show min v 64 = v by omega)
      clear hx hx2
      have SN := Lib.hid (show setN (l.take (k + 1)) = setN (l.take k) ||| 2 ^ v by rw [TK.out, setN_snoc, Int.toNat_natCast])
      generalize setN (l.take k) = S at *
      go_wp2_with fail
      go_roundw
      case rel => exact ⟨k + 1, by omega, by go_num, by rw [MN.out, HO.out, SN.out], by first | exact trivial | rfl⟩
      case measure => simp [intOf]; omega
    · obtain rfl : k = l.length := by omega
      have ht := Lib.hid (show setN (l.take l.length) = setN l by rw [List.take_length])
      generalize setN (l.take l.length) = S at *
      go_wp2_with fail
      go_ret
      exact ⟨by rw [← ht.out]; rfl, rfl⟩
set_option maxRecDepth 100000 in
set_option maxHeartbeats 2000000 in
theorem rof_any (l : List Int) (A : Option Addr) (c : Nat) (w : World) (ha : Ints w A l) (hR : l.all inR = true) :
    Calls Tryz.prog 24 #[.slice A l.length c] w fun e w' => e = .returned (.int .u64 (setN l : Nat)) ∧ w' = w := by
  have hll := ha.1
  have HA := Lib.hid ha.2.2
  have HI := Lib.hid hR
  clear ha hR
  go_enter Tryz.func24, Tryz.ntmps24
  go_wp2_with fail
  go_loopw [3, 4] (fun s i wr => ∃ k : Nat, k ≤ l.length ∧ i = .int .i64 k ∧ s = .int .u64 (setN (l.take k) : Nat) ∧ wr = w) (fun _ i _ => l.length - (intOf i).toNat)
  case atStart => exact ⟨0, Nat.zero_le _, rfl, rfl, rfl⟩
  case round =>
    obtain ⟨k, hk, rfl, rfl, rfl⟩ := hrel
    by_cases hlt : k < l.length
    · obtain ⟨b1, o1, rfl, hb1', g1⟩ := HA.out (by omega)
      have x1 := g1 k hlt
      have TK := Lib.hid (show l.take (k + 1) = l.take k ++ [l[k]] from List.take_succ_eq_append_getElem hlt)
      have hx : inR l[k] = true := List.all_eq_true.1 HI.out _ (List.getElem_mem hlt)
      clear g1 HA
      generalize l[k] = x at *
      have hx2 : 0 ≤ x ∧ x ≤ 63 := by simpa [inR] using hx
      obtain ⟨v, rfl⟩ : ∃ v : Nat, x = v := ⟨x.toNat, by omega⟩
      have HO := Lib.hid (show bits .or .u64 ((setN (l.take k) : Nat) : Int) (IntKind.u64.wrap (2 ^ v)) = ((setN (l.take k) ||| 2 ^ v : Nat) : Int) by
        rw [one_shl' v (by omega)]
        exact bits_or_u64_nat _ _ (setN_lt (all_take HI.out k)) (two_lt (by omega)))
      have z1 : (k : Int) < (l.length : Int) := by omega
      have z2 : (0 : Int) ≤ (k : Int) := by omega
      have z3 : (0 : Int) ≤ (v : Int) := by omega
      have z4 : IntKind.u64.wrap (v : Int) = (v : Int) := by rw [IntKind.wrap_u64]; omega
      have MN := Lib.hid (show min v 64 = v by omega)
      clear hx hx2
      have SN := Lib.hid (show setN (l.take (k + 1)) = setN (l.take k) ||| 2 ^ v by rw [TK.out, setN_snoc, Int.toNat_natCast])
      generalize setN (l.take k) = S at *
      go_wp2_with fail
      go_roundw
      case rel => exact ⟨k + 1, by omega, by go_num, by rw [MN.out, HO.out, SN.out], by first | exact trivial | rfl⟩
      case measure => simp [intOf]; omega
    · obtain rfl : k = l.length := by omega
      have ht := Lib.hid (show setN (l.take l.length) = setN l by rw [List.take_length])
      generalize setN (l.take l.length) = S at *
      go_wp2_with fail
      go_ret
      exact ⟨by rw [← ht.out]; rfl, rfl⟩
end Go.Proofs.YtcbjkclajkjicaaGreatDoor

/-
  How many bits a word has, in words: by sums of ever wider fields.
-/
namespace Go.Proofs.YtcbjkclajkjicaaGreatDoor
open Go Go.RowKit Go.Ev

/-- the sum of n digits -/
def dsum (b : Nat) : Nat → Nat → Nat
  | 0, _ => 0
  | n + 1, x => x % b + dsum b n (x / b)
/-- n fields of B, each c -/
def rep (c B : Nat) : Nat → Nat
  | 0 => 0
  | n + 1 => c + B * rep c B n
/-- the low half of each field -/
def low (q B : Nat) : Nat → Nat → Nat
  | 0, _ => 0
  | n + 1, x => x % q + B * low q B n (x / B)
theorem and_rep (h : Nat) : ∀ (n x : Nat), x &&& rep (2 ^ h - 1) (2 ^ (2 * h)) n = low (2 ^ h) (2 ^ (2 * h)) n x
  | 0, x => Nat.and_zero x
  | n + 1, x => by
    have hq : 0 < 2 ^ h := Nat.two_pow_pos h
    have hB : 2 ^ (2 * h) = 2 ^ h * 2 ^ h := by rw [← Nat.pow_add, Nat.two_mul]
    have hlt : 2 ^ h - 1 < 2 ^ (2 * h) := by
      rw [hB]
      exact Nat.lt_of_lt_of_le (Nat.sub_lt hq (by decide)) (Nat.le_mul_of_pos_left _ hq)
    have e1 : (rep (2 ^ h - 1) (2 ^ (2 * h)) (n + 1)) % 2 ^ (2 * h) = 2 ^ h - 1 := by
      rw [rep, Nat.add_mul_mod_self_left, Nat.mod_eq_of_lt hlt]
    have e2 : (rep (2 ^ h - 1) (2 ^ (2 * h)) (n + 1)) / 2 ^ (2 * h) = rep (2 ^ h - 1) (2 ^ (2 * h)) n := by
      rw [rep, Nat.add_mul_div_left _ _ (Nat.two_pow_pos _), Nat.div_eq_of_lt hlt, Nat.zero_add]
    rw [← Nat.mod_add_div (x &&& rep (2 ^ h - 1) (2 ^ (2 * h)) (n + 1)) (2 ^ (2 * h)), Nat.and_mod_two_pow, Nat.and_div_two_pow, e1, e2, and_rep h n, Nat.and_two_pow_sub_one_eq_mod, low, hB, Nat.mod_mul_right_mod]
theorem low_lt {q : Nat} (hq : 2 ≤ q) : ∀ (n x : Nat), low q (q * q) n (x / q) + low q (q * q) n x < (q * q) ^ n
  | 0, _ => by simp [low]
  | n + 1, x => by
    have ih := low_lt hq n (x / (q * q))
    have c : x / q / (q * q) = x / (q * q) / q := by rw [Nat.div_div_eq_div_mul, Nat.div_div_eq_div_mul, Nat.mul_comm q]
    have h1 := Nat.mod_lt (x / q) (show 0 < q by omega)
    have h2 := Nat.mod_lt x (show 0 < q by omega)
    have h3 : 2 * q ≤ q * q := Nat.mul_le_mul_right q hq
    rw [low, low, c, Nat.pow_succ, Nat.mul_comm _ (q * q)]
    generalize low q (q * q) n (x / (q * q) / q) = a at *
    generalize low q (q * q) n (x / (q * q)) = b at *
    generalize (q * q) ^ n = P at *
    have h4 : q * q * (a + b + 1) ≤ q * q * P := Nat.mul_le_mul_left _ ih
    rw [Nat.mul_add, Nat.mul_add, Nat.mul_one] at h4
    generalize q * q * a = A at *
    generalize q * q * b = B at *
    omega
theorem dsum_step {q : Nat} (hq : 2 ≤ q) : ∀ (n x : Nat), dsum (q * q) n (low q (q * q) n (x / q) + low q (q * q) n x) = dsum q (2 * n) x
  | 0, _ => rfl
  | n + 1, x => by
    have ih := dsum_step hq n (x / (q * q))
    have c : x / q / (q * q) = x / (q * q) / q := by rw [Nat.div_div_eq_div_mul, Nat.div_div_eq_div_mul, Nat.mul_comm q]
    have h1 := Nat.mod_lt (x / q) (show 0 < q by omega)
    have h2 := Nat.mod_lt x (show 0 < q by omega)
    have h3 : 2 * q ≤ q * q := Nat.mul_le_mul_right q hq
    have e : low q (q * q) (n + 1) (x / q) + low q (q * q) (n + 1) x = (x / q % q + x % q) + q * q * (low q (q * q) n (x / (q * q) / q) + low q (q * q) n (x / (q * q))) := by
      rw [low, low, c, Nat.mul_add]; omega
    have hlt : x / q % q + x % q < q * q := by omega
    rw [e, dsum, Nat.add_mul_mod_self_left, Nat.mod_eq_of_lt hlt, Nat.add_mul_div_left _ _ (by omega), Nat.div_eq_of_lt hlt, Nat.zero_add, ih, show 2 * (n + 1) = 2 * n + 1 + 1 from by omega, dsum, dsum, Nat.div_div_eq_div_mul]
    omega
/-- each of the n digits is at most k -/
def digs (b k : Nat) : Nat → Nat → Prop
  | 0, _ => True
  | n + 1, x => x % b ≤ k ∧ digs b k n (x / b)
theorem digs_all {b : Nat} (hb : 0 < b) : ∀ (n x : Nat), digs b (b - 1) n x
  | 0, _ => trivial
  | n + 1, x => ⟨by have := Nat.mod_lt x hb; omega, digs_all hb n _⟩
theorem digs_step {q k : Nat} (hq : 2 ≤ q) : ∀ (n x : Nat), digs q k (2 * n) x → digs (q * q) (2 * k) n (low q (q * q) n (x / q) + low q (q * q) n x)
  | 0, _, _ => trivial
  | n + 1, x, h => by
    rw [show 2 * (n + 1) = 2 * n + 1 + 1 from by omega] at h
    obtain ⟨g1, g2, g3⟩ := h
    rw [Nat.div_div_eq_div_mul] at g3
    have ih := digs_step hq n (x / (q * q)) g3
    have c : x / q / (q * q) = x / (q * q) / q := by rw [Nat.div_div_eq_div_mul, Nat.div_div_eq_div_mul, Nat.mul_comm q]
    have h1 := Nat.mod_lt (x / q) (show 0 < q by omega)
    have h2 := Nat.mod_lt x (show 0 < q by omega)
    have h3 : 2 * q ≤ q * q := Nat.mul_le_mul_right q hq
    have e : low q (q * q) (n + 1) (x / q) + low q (q * q) (n + 1) x = (x / q % q + x % q) + q * q * (low q (q * q) n (x / (q * q) / q) + low q (q * q) n (x / (q * q))) := by
      rw [low, low, c, Nat.mul_add]; omega
    have hlt : x / q % q + x % q < q * q := by omega
    rw [e, digs, Nat.add_mul_mod_self_left, Nat.mod_eq_of_lt hlt, Nat.add_mul_div_left _ _ (by omega), Nat.div_eq_of_lt hlt, Nat.zero_add]
    exact ⟨by omega, ih⟩
theorem carry {a b c u : Nat} (ha : a ≤ 4) (hb : b ≤ 4) (hc : c ≤ 4) : (b + 16 * (c + 16 * u) + (a + 16 * (b + 16 * (c + 16 * u)))) / 256 = u + (c + 16 * u) := by omega
theorem carry_at {x : Nat} (g1 : x % 16 ≤ 4) (g2 : x / 16 % 16 ≤ 4) (g4 : x / 256 % 16 ≤ 4) : (x / 16 + x) / 256 = x / 256 / 16 + x / 256 := by
  have h := carry (u := x / 256 / 16) g1 g2 g4
  have e1 : x / 256 % 16 + 16 * (x / 256 / 16) = x / 256 := by omega
  have e2 : x / 16 % 16 + 16 * (x / 256) = x / 16 := by omega
  have e3 : x % 16 + 16 * (x / 16) = x := by omega
  rw [e1, e2, e3] at h
  exact h
/-- small digits: adding a shifted word, and then the low halves, is as the low halves first -/
theorem low_add : ∀ (n x : Nat), digs 16 4 (2 * n + 1) x → low 16 256 n (x / 16 + x) = low 16 256 n (x / 16) + low 16 256 n x
  | 0, _, _ => rfl
  | n + 1, x, h => by
    rw [show 2 * (n + 1) + 1 = 2 * n + 1 + 1 + 1 from by omega] at h
    obtain ⟨g1, g2, g3⟩ := h
    rw [Nat.div_div_eq_div_mul, show 16 * 16 = 256 from rfl] at g3
    have g4 := g3.1
    have ih := low_add n (x / 256) g3
    have e1 : (x / 16 + x) % 16 = x / 16 % 16 + x % 16 := by omega
    have e2 := carry_at g1 g2 g4
    have e3 : x / 16 / 256 = x / 256 / 16 := by omega
    rw [low, low, low, e1, e2, e3, ih]
    omega
/-- how many bits a word has -/
def ones (x : Nat) : Nat := dsum 2 64 x
def pc1 (x : Nat) : Nat := (x / 2 &&& 6148914691236517205) + (x &&& 6148914691236517205)
def pc2 (x : Nat) : Nat := (x / 4 &&& 3689348814741910323) + (x &&& 3689348814741910323)
def pc3 (x : Nat) : Nat := (x / 16 + x) &&& 1085102592571150095
theorem m0_rep : 6148914691236517205 = rep (2 ^ 1 - 1) (2 ^ (2 * 1)) 32 := by decide +kernel
theorem m1_rep : 3689348814741910323 = rep (2 ^ 2 - 1) (2 ^ (2 * 2)) 16 := by decide +kernel
theorem m2_rep : 1085102592571150095 = rep (2 ^ 4 - 1) (2 ^ (2 * 4)) 8 := by decide +kernel
theorem pc1_low (x : Nat) : pc1 x = low 2 (2 * 2) 32 (x / 2) + low 2 (2 * 2) 32 x := by
  unfold pc1; rw [m0_rep, and_rep, and_rep]
theorem pc2_low (x : Nat) : pc2 x = low 4 (4 * 4) 16 (x / 4) + low 4 (4 * 4) 16 x := by
  unfold pc2; rw [m1_rep, and_rep, and_rep]
theorem digs_top {b k : Nat} (hb : 0 < b) : ∀ (n x : Nat), digs b k n x → x < b ^ n → digs b k (n + 1) x
  | 0, x, _, h => by
    obtain rfl : x = 0 := by simpa using h
    exact ⟨by simp, trivial⟩
  | n + 1, x, h, hx => ⟨h.1, digs_top hb n (x / b) h.2 (by rw [Nat.pow_succ] at hx; exact Nat.div_lt_of_lt_mul (by rw [Nat.mul_comm]; exact hx))⟩
/-- a number of small digits is small -/
theorem digs_le {b k : Nat} (hb : 0 < b) : ∀ (n x : Nat), digs b k n x → x < b ^ n → x ≤ rep k b n
  | 0, x, _, h => by simp [rep] at *; omega
  | n + 1, x, h, hx => by
    have ih := digs_le hb n (x / b) h.2 (by rw [Nat.pow_succ] at hx; exact Nat.div_lt_of_lt_mul (by rw [Nat.mul_comm]; exact hx))
    rw [rep]
    have := Nat.mod_add_div x b
    have h2 := Nat.mul_le_mul_left b ih
    have := h.1
    omega
theorem pc3_low {x : Nat} (h : digs 16 4 17 x) : pc3 x = low 16 (16 * 16) 8 (x / 16) + low 16 (16 * 16) 8 x := by
  unfold pc3; rw [m2_rep, and_rep]; exact low_add 8 x h
theorem sum1 (b0 b1 b2 b3 b4 b5 b6 r6 : Nat) : (b0 + 256 * (b1 + 256 * (b2 + 256 * (b3 + 256 * (b4 + 256 * (b5 + 256 * (b6 + 256 * r6))))))) + (b1 + 256 * (b2 + 256 * (b3 + 256 * (b4 + 256 * (b5 + 256 * (b6 + 256 * r6)))))) = (b0 + b1 + 256 * (b1 + b2)) + 65536 * ((b2 + b3 + 256 * (b3 + b4)) + 65536 * ((b4 + b5 + 256 * (b5 + b6)) + 65536 * (b6 + r6 + 256 * r6))) := by omega
theorem sum3 (b0 b1 b2 b3 b4 b5 b6 r6 : Nat) : (b0 + b1 + 256 * (b1 + b2)) + 65536 * ((b2 + b3 + 256 * (b3 + b4)) + 65536 * ((b4 + b5 + 256 * (b5 + b6)) + 65536 * (b6 + r6 + 256 * r6))) + ((b2 + b3 + 256 * (b3 + b4)) + 65536 * ((b4 + b5 + 256 * (b5 + b6)) + 65536 * (b6 + r6 + 256 * r6))) = ((b0 + b1 + b2 + b3) + 256 * (b1 + b2 + b3 + b4 + 256 * (b2 + b3 + b4 + b5 + 256 * (b3 + b4 + b5 + b6)))) + 4294967296 * ((b4 + b5 + b6 + r6) + 256 * (b5 + b6 + r6) + 65536 * (b6 + r6 + 256 * r6)) := by omega
theorem sum5 {b0 b1 b2 b3 b4 b5 b6 r6 : Nat} (h0 : b0 ≤ 8) (h1 : b1 ≤ 8) (h2 : b2 ≤ 8) (h3 : b3 ≤ 8) (h4 : b4 ≤ 8) (h5 : b5 ≤ 8) (h6 : b6 ≤ 8) (h7 : r6 ≤ 8) : (b0 + b1 + 256 * (b1 + b2)) + 65536 * ((b2 + b3 + 256 * (b3 + b4)) + 65536 * ((b4 + b5 + 256 * (b5 + b6)) + 65536 * (b6 + r6 + 256 * r6))) < 4611686018427387904 ∧ ((b0 + b1 + b2 + b3) + 256 * (b1 + b2 + b3 + b4 + 256 * (b2 + b3 + b4 + b5 + 256 * (b3 + b4 + b5 + b6)))) + 4294967296 * ((b4 + b5 + b6 + r6) + 256 * (b5 + b6 + r6) + 65536 * (b6 + r6 + 256 * r6)) < 4611686018427387904 ∧ ((b0 + b1 + b2 + b3) + 256 * (b1 + b2 + b3 + b4 + 256 * (b2 + b3 + b4 + b5 + 256 * (b3 + b4 + b5 + b6)))) + 4294967296 * ((b4 + b5 + b6 + r6) + 256 * (b5 + b6 + r6) + 65536 * (b6 + r6 + 256 * r6)) + ((b4 + b5 + b6 + r6) + 256 * (b5 + b6 + r6) + 65536 * (b6 + r6 + 256 * r6)) < 4611686018427387904 := by omega
theorem sum6 {b0 b1 b2 b3 b4 b5 b6 r6 : Nat} (h0 : b0 ≤ 8) (h1 : b1 ≤ 8) (h2 : b2 ≤ 8) (h3 : b3 ≤ 8) (h4 : b4 ≤ 8) (h5 : b5 ≤ 8) (h6 : b6 ≤ 8) (h7 : r6 ≤ 8) : (((b0 + b1 + b2 + b3) + 256 * (b1 + b2 + b3 + b4 + 256 * (b2 + b3 + b4 + b5 + 256 * (b3 + b4 + b5 + b6)))) + 4294967296 * ((b4 + b5 + b6 + r6) + 256 * (b5 + b6 + r6) + 65536 * (b6 + r6 + 256 * r6)) + ((b4 + b5 + b6 + r6) + 256 * (b5 + b6 + r6) + 65536 * (b6 + r6 + 256 * r6))) % 128 = b0 + (b1 + (b2 + (b3 + (b4 + (b5 + (b6 + r6)))))) := by
  have e : ((b0 + b1 + b2 + b3) + 256 * (b1 + b2 + b3 + b4 + 256 * (b2 + b3 + b4 + b5 + 256 * (b3 + b4 + b5 + b6)))) + 4294967296 * ((b4 + b5 + b6 + r6) + 256 * (b5 + b6 + r6) + 65536 * (b6 + r6 + 256 * r6)) + ((b4 + b5 + b6 + r6) + 256 * (b5 + b6 + r6) + 65536 * (b6 + r6 + 256 * r6)) = (b0 + b1 + b2 + b3 + b4 + b5 + b6 + r6) + 128 * (2 * (b1 + b2 + b3 + b4 + 256 * (b2 + b3 + b4 + b5 + 256 * (b3 + b4 + b5 + b6))) + 33554432 * ((b4 + b5 + b6 + r6) + 256 * (b5 + b6 + r6) + 65536 * (b6 + r6 + 256 * r6)) + 2 * (b5 + b6 + r6) + 512 * (b6 + r6 + 256 * r6)) := by omega
  rw [e, Nat.add_mul_mod_self_left, Nat.mod_eq_of_lt (by omega)]
  omega
theorem last_sum {x : Nat} (h : digs 256 8 8 x) (hx : x < 18446744073709551616) : let y1 := x + x / 256; let y2 := y1 + y1 / 65536; let y3 := y2 + y2 / 4294967296; y1 < 4611686018427387904 ∧ y2 < 4611686018427387904 ∧ y3 < 4611686018427387904 ∧ y3 % 128 = dsum 256 8 x := by
  obtain ⟨g0, g1, g2, g3, g4, g5, g6, g7, _⟩ := h
  obtain ⟨b0, r0, h0, rfl⟩ : ∃ b y, b < 256 ∧ x = b + 256 * y := ⟨x % 256, x / 256, by omega, by omega⟩
  obtain ⟨b1, r1, h1, rfl⟩ : ∃ b y, b < 256 ∧ r0 = b + 256 * y := ⟨r0 % 256, r0 / 256, by omega, by omega⟩
  obtain ⟨b2, r2, h2, rfl⟩ : ∃ b y, b < 256 ∧ r1 = b + 256 * y := ⟨r1 % 256, r1 / 256, by omega, by omega⟩
  obtain ⟨b3, r3, h3, rfl⟩ : ∃ b y, b < 256 ∧ r2 = b + 256 * y := ⟨r2 % 256, r2 / 256, by omega, by omega⟩
  obtain ⟨b4, r4, h4, rfl⟩ : ∃ b y, b < 256 ∧ r3 = b + 256 * y := ⟨r3 % 256, r3 / 256, by omega, by omega⟩
  obtain ⟨b5, r5, h5, rfl⟩ : ∃ b y, b < 256 ∧ r4 = b + 256 * y := ⟨r4 % 256, r4 / 256, by omega, by omega⟩
  obtain ⟨b6, r6, h6, rfl⟩ : ∃ b y, b < 256 ∧ r5 = b + 256 * y := ⟨r5 % 256, r5 / 256, by omega, by omega⟩
  have st : ∀ {b y : Nat}, b < 256 → (b + 256 * y) / 256 = y := fun {b y} h => by omega
  have sm : ∀ {b y : Nat}, b < 256 → (b + 256 * y) % 256 = b := fun {b y} h => by omega
  have h7 : r6 < 256 := by omega
  have m7 : r6 % 256 = r6 := Nat.mod_eq_of_lt h7
  simp only [st h0, st h1, st h2, st h3, st h4, st h5, st h6, sm h0, sm h1, sm h2, sm h3, sm h4, sm h5, sm h6, m7] at g0 g1 g2 g3 g4 g5 g6 g7
  simp only [dsum, st h0, st h1, st h2, st h3, st h4, st h5, st h6, sm h0, sm h1, sm h2, sm h3, sm h4, sm h5, sm h6, m7, Nat.add_zero]
  clear st sm hx m7
  have q1 : (b0 + b1 + 256 * (b1 + b2)) < 65536 := by clear h0 h1 h2 h3 h4 h5 h6 h7; omega
  have q2 : ((b0 + b1 + b2 + b3) + 256 * (b1 + b2 + b3 + b4 + 256 * (b2 + b3 + b4 + b5 + 256 * (b3 + b4 + b5 + b6)))) < 4294967296 := by clear h0 h1 h2 h3 h4 h5 h6 h7 q1; omega
  have e2 : ((b0 + b1 + 256 * (b1 + b2)) + 65536 * ((b2 + b3 + 256 * (b3 + b4)) + 65536 * ((b4 + b5 + 256 * (b5 + b6)) + 65536 * (b6 + r6 + 256 * r6)))) / 65536 = ((b2 + b3 + 256 * (b3 + b4)) + 65536 * ((b4 + b5 + 256 * (b5 + b6)) + 65536 * (b6 + r6 + 256 * r6))) := by rw [Nat.add_mul_div_left _ _ (by decide), Nat.div_eq_of_lt q1, Nat.zero_add]
  have e4 : (((b0 + b1 + b2 + b3) + 256 * (b1 + b2 + b3 + b4 + 256 * (b2 + b3 + b4 + b5 + 256 * (b3 + b4 + b5 + b6)))) + 4294967296 * ((b4 + b5 + b6 + r6) + 256 * (b5 + b6 + r6) + 65536 * (b6 + r6 + 256 * r6))) / 4294967296 = ((b4 + b5 + b6 + r6) + 256 * (b5 + b6 + r6) + 65536 * (b6 + r6 + 256 * r6)) := by rw [Nat.add_mul_div_left _ _ (by decide), Nat.div_eq_of_lt q2, Nat.zero_add]
  rw [sum1, e2, sum3, e4]
  obtain ⟨k1, k2, k3⟩ := sum5 g0 g1 g2 g3 g4 g5 g6 g7
  exact ⟨k1, k2, k3, sum6 g0 g1 g2 g3 g4 g5 g6 g7⟩
/-- the whole -/
theorem pop_sum (x : Nat) : pc1 x < 18446744073709551616 ∧ pc2 (pc1 x) / 16 + pc2 (pc1 x) < 18446744073709551616 ∧ pc3 (pc2 (pc1 x)) < 18446744073709551616 ∧ digs 256 8 8 (pc3 (pc2 (pc1 x))) ∧ dsum 256 8 (pc3 (pc2 (pc1 x))) = ones x := by
  have a1 := pc1_low x
  have b1 : pc1 x < 18446744073709551616 := by rw [a1]; exact low_lt (by decide) 32 x
  have d1 : digs 4 2 32 (pc1 x) := by rw [a1]; exact digs_step (k := 1) (by decide) 32 x (digs_all (by decide) 64 x)
  have s1 : dsum 4 32 (pc1 x) = ones x := by rw [a1]; exact dsum_step (by decide) 32 x
  generalize pc1 x = x1 at *
  have a2 := pc2_low x1
  have b2 : pc2 x1 < 18446744073709551616 := by rw [a2]; exact low_lt (by decide) 16 x1
  have d2 : digs 16 4 16 (pc2 x1) := by rw [a2]; exact digs_step (k := 2) (by decide) 16 x1 d1
  have s2 : dsum 16 16 (pc2 x1) = ones x := by rw [a2, ← s1]; exact dsum_step (by decide) 16 x1
  generalize pc2 x1 = x2 at *
  have d2' := digs_top (by decide) 16 x2 d2 b2
  have t : x2 / 16 + x2 < 18446744073709551616 := by
    have g := digs_le (b := 16) (k := 4) (by decide) 16 x2 d2 b2
    rw [show rep 4 16 16 = 4919131752989213764 by decide +kernel] at g
    omega
  have a3 := pc3_low d2'
  have b3 : pc3 x2 < 18446744073709551616 := by rw [a3]; exact low_lt (by decide) 8 x2
  have d3 : digs 256 8 8 (pc3 x2) := by rw [a3]; exact digs_step (k := 4) (by decide) 8 x2 d2
  have s3 : dsum 256 8 (pc3 x2) = ones x := by rw [a3, ← s2]; exact dsum_step (by decide) 8 x2
  exact ⟨b1, t, b3, d3, s3⟩
theorem ones_len : ∀ (f i x : Nat), x < 2 ^ f → dsum 2 f x = (bitsOf f i x).length
  | 0, i, x, h => by
    obtain rfl : x = 0 := by simpa using h
    rfl
  | f + 1, i, x, h => by
    have ih := ones_len f (i + 1) (x / 2) (by rw [Nat.pow_succ] at h; omega)
    rw [dsum, ih]
    by_cases h0 : x = 0
    · subst h0
      simp [bitsOf_zero]
    · rw [bitsOf]
      by_cases h1 : x % 2 = 1
      · simp only [Nat.beq_eq, h0, h1, if_true, if_false, List.length_cons]; omega
      · simp only [Nat.beq_eq, h0, h1, if_false]; omega
end Go.Proofs.YtcbjkclajkjicaaGreatDoor

/-
  How many bits a word has: the library's OnesCount64; the program's size.
-/
namespace Go.Proofs.YtcbjkclajkjicaaGreatDoor
set_option linter.unusedSimpArgs false
open Go Go.RowKit Go.Ev

theorem pcw1 (x : Nat) (hx : x < 18446744073709551616) : IntKind.u64.wrap (bits .and .u64 ((x : Int) / 2) 6148914691236517205 + bits .and .u64 (x : Int) 6148914691236517205) = ((pc1 x : Nat) : Int) := by
  have h := (pop_sum x).1
  have g1 : bits .and .u64 ((x : Int) / 2) 6148914691236517205 = ((x / 2 &&& 6148914691236517205 : Nat) : Int) := bits_and_u64_nat (x / 2) 6148914691236517205 (by omega) (by decide)
  have g2 : bits .and .u64 (x : Int) 6148914691236517205 = ((x &&& 6148914691236517205 : Nat) : Int) := bits_and_u64_nat x 6148914691236517205 hx (by decide)
  rw [g1, g2, IntKind.wrap_u64]
  unfold pc1 at h ⊢
  omega
theorem pcw2 (x : Nat) (hx : x < 18446744073709551616) (h : pc2 x < 18446744073709551616) : IntKind.u64.wrap (bits .and .u64 ((x : Int) / 4) 3689348814741910323 + bits .and .u64 (x : Int) 3689348814741910323) = ((pc2 x : Nat) : Int) := by
  have g1 : bits .and .u64 ((x : Int) / 4) 3689348814741910323 = ((x / 4 &&& 3689348814741910323 : Nat) : Int) := bits_and_u64_nat (x / 4) 3689348814741910323 (by omega) (by decide)
  have g2 : bits .and .u64 (x : Int) 3689348814741910323 = ((x &&& 3689348814741910323 : Nat) : Int) := bits_and_u64_nat x 3689348814741910323 hx (by decide)
  rw [g1, g2, IntKind.wrap_u64]
  unfold pc2 at h ⊢
  omega
theorem pcw3 (x : Nat) (h : x / 16 + x < 18446744073709551616) : bits .and .u64 (IntKind.u64.wrap ((x : Int) / 16 + (x : Int))) 1085102592571150095 = ((pc3 x : Nat) : Int) := by
  have g1 : IntKind.u64.wrap ((x : Int) / 16 + (x : Int)) = ((x / 16 + x : Nat) : Int) := by rw [IntKind.wrap_u64]; omega
  rw [g1]
  exact bits_and_u64_nat (x / 16 + x) 1085102592571150095 h (by decide)
theorem wrap_nat {n : Int} {m : Nat} (h : n = m) (hm : m < 18446744073709551616) : IntKind.u64.wrap n = m := by rw [IntKind.wrap_u64]; omega
set_option maxRecDepth 100000 in
set_option maxHeartbeats 2000000 in
theorem onesCount_any (x : Nat) (w : World) (hx : x < 18446744073709551616) :
    Calls Tryz.prog 73 #[.int .u64 x] w fun e w' => e = .returned (.int .i64 (ones x : Nat)) ∧ w' = w := by
  obtain ⟨a1, a2, a3, a4, a5⟩ := pop_sum x
  have f1 := pcw1 x hx
  have f2 := pcw2 (pc1 x) a1 (by omega)
  have f3 := pcw3 (pc2 (pc1 x)) a2
  obtain ⟨l1, l2, l3, l4⟩ := last_sum a4 a3
  rw [a5] at l4
  clear a4 a5
  generalize pc1 x = x1 at *
  generalize pc2 x1 = x2 at *
  generalize pc3 x2 = x3 at *
  generalize ones x = O at *
  obtain ⟨y1, e1⟩ : ∃ y, x3 + x3 / 256 = y := ⟨_, rfl⟩
  rw [e1] at l1 l2 l3 l4
  obtain ⟨y2, e2⟩ : ∃ y, y1 + y1 / 65536 = y := ⟨_, rfl⟩
  rw [e2] at l2 l3 l4
  obtain ⟨y3, e3⟩ : ∃ y, y2 + y2 / 4294967296 = y := ⟨_, rfl⟩
  rw [e3] at l3 l4
  have f4 : IntKind.u64.wrap ((x3 : Int) + (x3 : Int) / 256) = (y1 : Int) := wrap_nat (by omega) (by omega)
  have f5 : IntKind.u64.wrap ((y1 : Int) + (y1 : Int) / 65536) = (y2 : Int) := wrap_nat (by omega) (by omega)
  have f6 : IntKind.u64.wrap ((y2 : Int) + (y2 : Int) / 4294967296) = (y3 : Int) := wrap_nat (by omega) (by omega)
  have f7 : wrap64 (y3 : Int) = (y3 : Int) := by unfold wrap64; omega
  have f8 : bits .and .i64 (y3 : Int) 127 = (O : Int) := by rw [i64_and127]; omega
  have HF := Lib.hid (And.intro f1 (And.intro f2 (And.intro f3 (And.intro f4 (And.intro f5 (And.intro f6 (And.intro f7 f8)))))))
  clear f1 f2 f3 f4 f5 f6 f7 f8 e1 e2 e3 l1 l2 l3 l4 a1 a2 a3 hx
  go_enter Tryz.func73, Tryz.ntmps73
  go_wp2_with fail
  obtain ⟨f1, f2, f3, f4, f5, f6, f7, f8⟩ := HF.out
  rw [f1, f2, f3, f4, f5, f6, f7, f8]
  go_ret
  exact ⟨rfl, rfl⟩
theorem fsize_any (x : Nat) (w : World) (hx : x < 18446744073709551616) :
    Calls Tryz.prog 46 #[.int .u64 x] w fun e w' => e = .returned (.int .i64 (ones x : Nat)) ∧ w' = w := by
  have OC := Lib.hid (onesCount_any x w hx)
  clear hx
  go_enter Tryz.func46, Tryz.ntmps46
  go_wp2_with (go_at_call 73; refine OC.out.mono ?_; rintro e w1 ⟨rfl, rfl⟩)
  go_ret
  exact ⟨rfl, rfl⟩
theorem andNot_u64 (a b : Nat) (ha : a < 18446744073709551616) (hb : b < 18446744073709551616) :
    bits .andNot .u64 (a : Int) (b : Int) = ((a &&& (18446744073709551615 - b) : Nat) : Int) := by
  have hx : a &&& (18446744073709551615 - b) < 2 ^ 64 := Nat.lt_of_le_of_lt Nat.and_le_left (by omega)
  have h1 : (BitVec.ofInt 64 (a : Int)).toNat = a := by
    rw [BitVec.ofInt_natCast, BitVec.toNat_ofNat]; exact Nat.mod_eq_of_lt (by omega)
  have h2 : (BitVec.ofInt 64 (b : Int)).toNat = b := by
    rw [BitVec.ofInt_natCast, BitVec.toNat_ofNat]; exact Nat.mod_eq_of_lt (by omega)
  show IntKind.u64.wrap ((BitVec.ofInt 64 (a : Int) &&& ~~~BitVec.ofInt 64 (b : Int)).toNat : Int) = _
  rw [BitVec.toNat_and, BitVec.toNat_not, h1, h2, IntKind.wrap_u64]
  have e : 2 ^ 64 - 1 - b = 18446744073709551615 - b := by omega
  rw [e]
  omega
/-- the words' difference -/
def sub64 (a b : Nat) : Nat := a &&& (18446744073709551615 - b)
theorem isIn_any (a b : Nat) (w : World) (ha : a < 18446744073709551616) (hb : b < 18446744073709551616) :
    Calls Tryz.prog 49 #[.int .u64 a, .int .u64 b] w fun e w' => e = .returned (.bool (decide (sub64 a b = 0))) ∧ w' = w := by
  have g : bits .andNot .u64 (a : Int) (b : Int) = ((sub64 a b : Nat) : Int) := andNot_u64 a b ha hb
  have G := Lib.hid g
  generalize sub64 a b = s at *
  clear g ha hb
  go_enter Tryz.func49, Tryz.ntmps49
  go_wp2_with fail
  rw [G.out]
  go_ret
  refine ⟨?_, rfl⟩
  by_cases h : s = 0
  · subst h; rfl
  · simp [h]
end Go.Proofs.YtcbjkclajkjicaaGreatDoor

/-
  The numbers of a word: the document's list and size.
-/
namespace Go.Proofs.YtcbjkclajkjicaaGreatDoor
set_option linter.unusedSimpArgs false
open Go Go.RowKit Go.Ev

theorem bitsOf_flt : ∀ (f i x : Nat), x < 2 ^ f → bitsOf f i x = ((List.range f).filter fun t => x.testBit t).map fun t => i + t
  | 0, i, x, h => by simp [bitsOf]
  | f + 1, i, x, h => by
    have ih := bitsOf_flt f (i + 1) (x / 2) (by rw [Nat.pow_succ] at h; omega)
    have e : ((List.range (f + 1)).filter fun t => x.testBit t).map (fun t => i + t) = (if x.testBit 0 = true then [i] else []) ++ ((List.range f).filter fun t => (x / 2).testBit t).map fun t => i + 1 + t := by
      rw [List.range_succ_eq_map, List.filter_cons, List.filter_map]
      have e2 : ((fun t => x.testBit t) ∘ Nat.succ) = fun t => (x / 2).testBit t := by
        funext t
        simp [Nat.testBit_succ]
      rw [e2]
      split
      · simp [Nat.add_comm, Nat.add_left_comm, Function.comp_def]
      · simp [Nat.add_comm, Nat.add_left_comm, Function.comp_def]
    rw [e, ← ih]
    by_cases h0 : x = 0
    · subst h0; rw [bitsOf_zero, bitsOf_zero]; simp
    · have b0 : Nat.beq x 0 = false := by cases e : Nat.beq x 0 with | false => rfl | true => exact absurd (Nat.eq_of_beq_eq_true e) h0
      by_cases h1 : x % 2 = 1
      · have b1 : Nat.beq (x % 2) 1 = true := by rw [h1]; rfl
        have t0 : x.testBit 0 = true := by rw [Nat.testBit_zero, decide_eq_true h1]
        rw [bitsOf, b0, b1, t0]; rfl
      · have b1 : Nat.beq (x % 2) 1 = false := by rw [show x % 2 = 0 by omega]; rfl
        have t0 : x.testBit 0 = false := by rw [Nat.testBit_zero, decide_eq_false h1]
        rw [bitsOf, b0, b1, t0]; rfl
/-- the numbers below k whose bit is set -/
def bl (x k : Nat) : List Nat := (List.range k).filter fun t => x.testBit t
theorem bl_succ (x k : Nat) : bl x (k + 1) = if x.testBit k = true then bl x k ++ [k] else bl x k := by
  unfold bl
  rw [List.range_succ, List.filter_append]
  by_cases h : x.testBit k = true
  · rw [if_pos h]; simp [h]
  · rw [if_neg h]; simp [h]
theorem bl_len (x k : Nat) : (bl x k).length ≤ k := by
  have := List.length_filter_le (fun t => x.testBit t) (List.range k)
  simpa [bl] using this
theorem bl_all {x : Nat} (h : x < 18446744073709551616) : bl x 64 = bitsOf 64 0 x := by
  rw [bitsOf_flt 64 0 x h]; simp [bl]
set_option maxRecDepth 100000 in
set_option maxHeartbeats 4000000 in
theorem rlist_any (x : Nat) (w : World) (hx : x < 18446744073709551616) :
    Calls Tryz.prog 62 #[.int .u64 x] w fun e w' => ∃ G cap, e = .returned (.slice G (bitsOf 64 0 x).length cap) ∧ w'.ownsRow w.heap.size 3 1 (.slice G (bitsOf 64 0 x).length cap) (bitsOf 64 0 x).length (natCells (bitsOf 64 0 x)) ∧ Below w.heap.size w w' := by
  obtain ⟨i0, hi, hz0, hz1, hz2⟩ := info_parts infoI
  have HX := Lib.hid hx
  clear hx
  go_enter Tryz.func62, Tryz.ntmps62
  go_wp2_with fail
  go_loopw [3, 4] (fun l i wr => ∃ (k : Nat) (G : Option Addr) (cap : Nat), k ≤ 64 ∧ i = .int .i64 k ∧ l = .slice G (bl x k).length cap ∧ wr.ownsRow w.heap.size 3 1 (.slice G (bl x k).length cap) (bl x k).length (natCells (bl x k)) ∧ Below w.heap.size w wr) (fun _ i _ => 64 - (intOf i).toNat)
  case atStart => exact ⟨0, none, 0, by omega, rfl, rfl, World.ownsRow_nil _ _ _ _, Below.refl _ _⟩
  case round =>
    obtain ⟨k, G, cap, hk, rfl, rfl, hown, hbw⟩ := hrel
    have BS := Lib.hid (bl_succ x k)
    have BL := Lib.hid (bl_len x k)
    have HO := Lib.hid hown
    have HBW := Lib.hid hbw
    clear hown hbw
    by_cases hlt : k < 64
    · have z1 : (k : Int) ≤ 63 := by omega
      have z2 : (0 : Int) ≤ (k : Int) := by omega
      have z3 : IntKind.u64.wrap (k : Int) = (k : Int) := by rw [IntKind.wrap_u64]; omega
      have g1 : bits .and .u64 ((x : Int) / 2 ^ k) 1 = ((x / 2 ^ k % 2 : Nat) : Int) := by
        have e : ((x : Int) / 2 ^ k) = ((x / 2 ^ k : Nat) : Int) := by simp
        have hd : x / 2 ^ k < 18446744073709551616 := Nat.lt_of_le_of_lt (Nat.div_le_self _ _) HX.out
        rw [e, show (1 : Int) = ((1 : Nat) : Int) from rfl, bits_and_u64_nat _ 1 hd (by decide), Nat.and_one_is_mod]
      have TB := Lib.hid (show (bits .and .u64 ((x : Int) / 2 ^ k) 1 == 1) = x.testBit k by
        rw [g1, Nat.testBit_eq_decide_div_mod_eq, Bool.eq_iff_iff, beq_iff_eq, decide_eq_true_eq]; omega)
      clear g1
      cases hT : x.testBit k with
      | true =>
        have gc := TB.out
        rw [hT] at gc
        have BS2 := Lib.hid (show bl x (k + 1) = bl x k ++ [k] by rw [BS.out, if_pos hT])
        clear BS TB hT
        generalize bl x k = Q at *
        have hln : (natCells Q).length = Q.length := natCells_len Q
        go_wp2_with (at_builtin; refine wpList_append_own _ rfl _ _ 22 rfl w.heap.size 3 i0 (.int .i64 0) 1 8 Tryz.underlying22 hi hz0 hz1 hz2 rfl (by decide) _ _ _ rfl (HO.out.alloc _) ⟨wr.heap.size, 0, none⟩ 1 1 [.int .i64 (k : Int)] rfl rfl ?c1 ?c2 ?c3 ?c4 ?c5 ?_)
        case c1 =>
          intro j z hj
          match j, hj with
          | 0, hj => simp at hj; subst hj; simp [Addr.add]
        case c2 => intro z hz; simp at hz; subst hz; rfl
        case c3 => have := BL.out; unfold maxLen; omega
        case c4 => have := BL.out; omega
        case c5 => have := HBW.out.size; simp; omega
        intro v' w2 hown' hgrow _
        obtain ⟨A', cap', hv'⟩ : ∃ A' cap', v' = .slice A' (Q.length + 1) cap' := by
          rcases hown'.2 with ⟨_, hz⟩ | ⟨g, cap, cur, hv, _⟩
          · omega
          · exact ⟨some ⟨g, 0, none⟩, cap, by rw [hv]⟩
        have hb2 : Below w.heap.size w w2 := (HBW.out.alloc HBW.out.size _).grown hgrow (by have := HBW.out.size; simp; omega) (fun j hj => (HO.out.lt j hj).1)
        have OW := Lib.hid (show w2.ownsRow w.heap.size 3 1 (.slice A' (bl x (k + 1)).length cap') (bl x (k + 1)).length (natCells (bl x (k + 1))) by rw [BS2.out, ← natCells_len (Q ++ [k]), natCells_snoc]; simpa [hv', hln] using hown')
        have VV := Lib.hid (show v' = .slice A' (bl x (k + 1)).length cap' by rw [BS2.out, hv']; simp)
        have HB2 := Lib.hid hb2
        clear hown' hgrow hv' hb2
        go_wp2_with fail
        go_roundw
        case rel => exact ⟨k + 1, A', cap', by omega, by go_num, VV.out, OW.out, HB2.out⟩
        case measure => simp [intOf]; omega
      | false =>
        have gc := TB.out
        rw [hT] at gc
        have BS2 := Lib.hid (show bl x (k + 1) = bl x k by rw [BS.out, if_neg (by rw [hT]; decide)])
        clear BS TB hT
        generalize bl x k = Q at *
        go_wp2_with fail
        go_roundw
        case rel => exact ⟨k + 1, G, cap, by omega, by go_num, by rw [BS2.out], by rw [BS2.out]; exact HO.out, HBW.out⟩
        case measure => simp [intOf]; omega
    · obtain rfl : k = 64 := by omega
      have HQ := Lib.hid (bl_all HX.out)
      clear BS BL
      generalize bl x 64 = Q at *
      go_wp2_with fail
      go_ret
      rw [← HQ.out]
      exact ⟨G, cap, rfl, HO.out, HBW.out⟩
theorem rsize_any (x : Nat) (w : World) (hx : x < 18446744073709551616) :
    Calls Tryz.prog 61 #[.int .u64 x] w fun e w' => e = .returned (.int .i64 (ones x : Nat)) ∧ Below w.heap.size w w' := by
  have LS := Lib.hid (rlist_any x w hx)
  have e : ones x = (bitsOf 64 0 x).length := ones_len 64 0 x hx
  rw [e]
  clear e hx
  generalize bitsOf 64 0 x = Q at *
  go_enter Tryz.func61, Tryz.ntmps61
  go_wp2_with (go_at_call 62; refine LS.out.mono ?_; rintro e w1 ⟨G, cap, rfl, _, hb⟩; have HB := Lib.hid hb; clear hb)
  go_ret
  exact ⟨rfl, HB.out⟩
end Go.Proofs.YtcbjkclajkjicaaGreatDoor

/-
  Bounds: their cells, and what is set in them.
-/
namespace Go.Proofs.YtcbjkclajkjicaaGreatDoor
set_option linter.unusedSimpArgs false
open Go Go.RowKit Go.Ev

/-- bounds as they lie -/
def Bd (w : World) (g lo hi : Nat) (mn mx : Int) : Prop := w.heap[g]? = some (.cells #[.int .u64 lo, .int .u64 hi, .int .i64 mn, .int .i64 mx] 58 (0, 0))
/-- one block alone is written -/
def Only (g : Nat) (w w' : World) : Prop := Below g w w' ∧ ∀ k, k ≠ g → w'.heap[k]? = w.heap[k]?
theorem Only.refl (g : Nat) (w : World) : Only g w w := ⟨Below.refl _ _, fun _ _ => rfl⟩
theorem Only.trans {g : Nat} {a b c : World} (h : Only g a b) (k : Only g b c) : Only g a c := ⟨h.1.trans k.1, fun i hi => (k.2 i hi).trans (h.2 i hi)⟩
theorem Only.set {g : Nat} (w : World) (o : Nat) (v : Value) : Only g w (w.setCell ⟨g, o, none⟩ v) := ⟨(Below.refl _ _).setCell (p := ⟨g, o, none⟩) (Nat.le_refl _) _, fun k hk => Below.heap_setCell _ _ _ k hk⟩
theorem Only.drew {g : Nat} {w w' : World} (h : Only g w w') : Only g w w'.drew := ⟨h.1.drew, h.2⟩
theorem Bd.facts {w : World} {g lo hi : Nat} {mn mx : Int} (h : Bd w g lo hi mn mx) : w.cell? ⟨g, 0, none⟩ = some (.int .u64 lo) ∧ w.cell? ⟨g, 1, none⟩ = some (.int .u64 hi) ∧ w.cell? ⟨g, 2, none⟩ = some (.int .i64 mn) ∧ w.cell? ⟨g, 3, none⟩ = some (.int .i64 mx) ∧ ∀ o, w.frozen? ⟨g, o, none⟩ = false := by
  unfold Bd at h
  refine ⟨?_, ?_, ?_, ?_, fun o => by simp [World.frozen?, h]⟩ <;> (simp only [World.cell?, h]; rfl)
theorem or_lt {a b : Nat} (ha : a < 18446744073709551616) (hb : b < 18446744073709551616) : a ||| b < 18446744073709551616 := Nat.or_lt_two_pow (n := 64) ha hb
theorem sub64_lt {a b : Nat} (ha : a < 18446744073709551616) : sub64 a b < 18446744073709551616 := Nat.lt_of_le_of_lt Nat.and_le_left ha
set_option maxHeartbeats 2000000 in
theorem into_any (g lo hi : Nat) (mn mx : Int) (s : Nat) (w : World) (h : Bd w g lo hi mn mx) (h1 : lo < 18446744073709551616) (h2 : s < 18446744073709551616) :
    Calls Tryz.prog 80 #[.pointer (some ⟨g, 0, none⟩), .int .u64 s] w fun e w' => e = .returned (.tuple #[]) ∧ Bd w' g (lo ||| s) hi mn mx ∧ Only g w w' := by
  obtain ⟨c0, c1, c2, c3, fz⟩ := h.facts
  have f0 := fz 0
  have HS := Lib.hid h
  clear h fz
  have G := Lib.hid (bits_or_u64_nat lo s h1 h2)
  clear h1 h2
  go_enter Tryz.func80, Tryz.ntmps80
  go_wp2_with fail
  rw [G.out]
  have h5 := heap_setCell_same _ g 0 _ _ (.int .u64 ((lo ||| s : Nat) : Int)) HS.out
  exact bodyPost_end (v := .tuple #[]) (by simp [results, Tryz.results80, go_sem]) rfl ⟨rfl, h5, Only.set _ _ _⟩
set_option maxHeartbeats 2000000 in
theorem out_any (g lo hi : Nat) (mn mx : Int) (s : Nat) (w : World) (h : Bd w g lo hi mn mx) (h1 : hi < 18446744073709551616) (h2 : s < 18446744073709551616) :
    Calls Tryz.prog 81 #[.pointer (some ⟨g, 0, none⟩), .int .u64 s] w fun e w' => e = .returned (.tuple #[]) ∧ Bd w' g lo (sub64 hi s) mn mx ∧ Only g w w' := by
  obtain ⟨c0, c1, c2, c3, fz⟩ := h.facts
  have f0 := fz 1
  have HS := Lib.hid h
  clear h fz
  have G := Lib.hid (show bits .andNot .u64 (hi : Int) (s : Int) = ((sub64 hi s : Nat) : Int) from andNot_u64 hi s h1 h2)
  clear h1 h2
  go_enter Tryz.func81, Tryz.ntmps81
  go_wp2_with fail
  rw [G.out]
  have h5 := heap_setCell_same _ g 1 _ _ (.int .u64 ((sub64 hi s : Nat) : Int)) HS.out
  exact bodyPost_end (v := .tuple #[]) (by simp [results, Tryz.results81, go_sem]) rfl ⟨rfl, h5, Only.set _ _ _⟩
set_option maxHeartbeats 2000000 in
theorem atLeast_any (g lo hi : Nat) (mn mx : Int) (n : Int) (w : World) (h : Bd w g lo hi mn mx) :
    Calls Tryz.prog 47 #[.pointer (some ⟨g, 0, none⟩), .int .i64 n] w fun e w' => e = .returned (.tuple #[]) ∧ Bd w' g lo hi (max mn n) mx ∧ Only g w w' := by
  obtain ⟨c0, c1, c2, c3, fz⟩ := h.facts
  have f0 := fz 2
  have HS := Lib.hid h
  clear h fz
  by_cases hc : mn < n
  · have e : max mn n = n := by omega
    rw [e]
    clear e
    go_enter Tryz.func47, Tryz.ntmps47
    go_wp2_with fail
    have h5 := heap_setCell_same _ g 2 _ _ (.int .i64 n) HS.out
    exact bodyPost_end (v := .tuple #[]) (by simp [results, Tryz.results47, go_sem]) rfl ⟨rfl, h5, Only.set _ _ _⟩
  · have e : max mn n = mn := by omega
    rw [e]
    clear e
    go_enter Tryz.func47, Tryz.ntmps47
    go_wp2_with fail
    have h5 := heap_setCell_same _ g 2 _ _ (.int .i64 mn) HS.out
    exact bodyPost_end (v := .tuple #[]) (by simp [results, Tryz.results47, go_sem]) rfl ⟨rfl, h5, Only.set _ _ _⟩
set_option maxHeartbeats 2000000 in
theorem atMost_any (g lo hi : Nat) (mn mx : Int) (n : Int) (w : World) (h : Bd w g lo hi mn mx) :
    Calls Tryz.prog 48 #[.pointer (some ⟨g, 0, none⟩), .int .i64 n] w fun e w' => e = .returned (.tuple #[]) ∧ Bd w' g lo hi mn (min mx n) ∧ Only g w w' := by
  obtain ⟨c0, c1, c2, c3, fz⟩ := h.facts
  have f0 := fz 3
  have HS := Lib.hid h
  clear h fz
  by_cases hc : n < mx
  · have e : min mx n = n := by omega
    rw [e]
    clear e
    go_enter Tryz.func48, Tryz.ntmps48
    go_wp2_with fail
    have h5 := heap_setCell_same _ g 3 _ _ (.int .i64 n) HS.out
    exact bodyPost_end (v := .tuple #[]) (by simp [results, Tryz.results48, go_sem]) rfl ⟨rfl, h5, Only.set _ _ _⟩
  · have e : min mx n = mx := by omega
    rw [e]
    clear e
    go_enter Tryz.func48, Tryz.ntmps48
    go_wp2_with fail
    have h5 := heap_setCell_same _ g 3 _ _ (.int .i64 mx) HS.out
    exact bodyPost_end (v := .tuple #[]) (by simp [results, Tryz.results48, go_sem]) rfl ⟨rfl, h5, Only.set _ _ _⟩
end Go.Proofs.YtcbjkclajkjicaaGreatDoor
