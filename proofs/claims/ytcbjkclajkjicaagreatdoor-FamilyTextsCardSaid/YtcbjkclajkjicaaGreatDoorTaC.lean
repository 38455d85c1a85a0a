/-
  What the program's read makes of a text, plainly; and of a family's own text.
-/
import Derived.Lib.IndexMore
import Derived.Lib.SlTrimSet
import Derived.Lib.AtoiAll
import Derived.Lib.SpaceU
import Derived.Shelf.Strings.FieldsAny
import Derived.Test.YtcbjkclajkjicaaGreatDoorTaB
import Derived.Shelf.Strings.SlTrimAscii
import Derived.Test.YtcbjkclajkjicaaGreatDoorShelf
namespace Go.Proofs.YtcbjkclajkjicaaGreatDoor
set_option linter.unusedSimpArgs false
set_option linter.unusedVariables false
open Go Go.RowKit Go.Lib Go.Ev

/-- the number of a word -/
def rdW (l : List UInt8) : Int := match Lib.atoiAll l with
  | .ok v => v
  | .range => Lib.atoiSat l
  | _ => 0
/-- the numbers of a list's text -/
def rdS (l : List UInt8) : List Int := (Lib.fieldsD (Lib.trimS l [123, 125])).map rdW
def ctA (s : List UInt8) : List UInt8 := (Lib.cut s hash).1
def ctB (s : List UInt8) : List UInt8 := (Lib.cut s hash).2.1
def pLo (s : List UInt8) : List Int := rdS (Lib.cut (ctA s) dots).1
def pHi (s : List UInt8) : List Int := rdS (Lib.cut (ctA s) dots).2.1
def pMn (s : List UInt8) : Int := rdW (Lib.cut (ctB s) dots).1
def pMx (s : List UInt8) : Int := rdW (Lib.cut (ctB s) dots).2.1

theorem index_at (c : UInt8) (q rest : List UInt8) (hc : c ≠ 32) (hq : q.isPrefixOf rest = true) : ∀ p : List UInt8, c ∉ p → Lib.index (p ++ 32 :: c :: rest) (32 :: c :: q) = p.length
  | [], _ => by
    show Lib.index (32 :: c :: rest) (32 :: c :: q) = 0
    unfold Lib.index
    rw [if_pos (by simp [List.isPrefixOf, hq])]
  | b :: p, h => by
    have hb : c ≠ b := fun e => h (by simp [e])
    have hp : c ∉ p := fun e => h (by simp [e])
    have ih := index_at c q rest hc hq p hp
    show Lib.index (b :: (p ++ 32 :: c :: rest)) (32 :: c :: q) = _
    unfold Lib.index
    have hn : (32 :: c :: q).isPrefixOf (b :: (p ++ 32 :: c :: rest)) = false := by
      cases p with
      | nil => simp [List.isPrefixOf, hc]
      | cons b' p' =>
        have : c ≠ b' := fun e => hp (by simp [e])
        simp [List.isPrefixOf, this]
    rw [hn, ih]
    have : ((p.length : Int) == -1) = false := by rw [beq_eq_false_iff_ne]; omega
    simp [this]
theorem cut_at (c : UInt8) (q rest p : List UInt8) (hc : c ≠ 32) (hp : c ∉ p) : Lib.cut (p ++ (32 :: c :: q ++ rest)) (32 :: c :: q) = (p, rest, true) := by
  have hi : Lib.index (p ++ (32 :: c :: q ++ rest)) (32 :: c :: q) = p.length := index_at c q (q ++ rest) hc (by simp) p hp
  unfold Lib.cut
  rw [hi, if_pos (by omega)]
  rw [Int.toNat_natCast, List.take_left' rfl, List.drop_append]
  simp

/-- bytes of a list's words: digits and spaces -/
def WordB (b : UInt8) : Prop := b.toNat = 32 ∨ (48 ≤ b.toNat ∧ b.toNat ≤ 57)
theorem db_bytes {n : Nat} (h : n < 100) : ∀ b ∈ db n, 48 ≤ b.toNat ∧ b.toNat ≤ 57 := by
  intro b hb
  unfold db digX bytesI at hb
  by_cases h10 : n < 10
  · rw [if_pos h10] at hb
    simp only [List.map_cons, List.map_nil, List.mem_singleton] at hb
    rw [hb, digit_byte h10]; omega
  · rw [if_neg h10] at hb
    simp only [List.map_cons, List.map_nil, List.mem_cons, List.not_mem_nil, or_false] at hb
    rcases hb with rfl | rfl
    · rw [digit_byte (by omega)]; omega
    · rw [digit_byte (by omega)]; omega
theorem tail_bytes : ∀ l : List Int, (∀ x ∈ l, 0 ≤ x ∧ x < 100) → ∀ b ∈ tailB l, WordB b
  | [], _, b, hb => by cases hb
  | x :: xs, h, b, hb => by
    have hx := h x (by simp)
    unfold tailB at hb
    simp only [List.mem_cons, List.mem_append] at hb
    rcases hb with rfl | hb | hb
    · exact Or.inl rfl
    · exact Or.inr (db_bytes (by omega) b hb)
    · exact tail_bytes xs (fun y hy => h y (by simp [hy])) b hb
theorem join_bytes (l : List Int) (h : ∀ x ∈ l, 0 ≤ x ∧ x < 100) : ∀ b ∈ joinB l, WordB b := by
  intro b hb
  cases l with
  | nil => cases hb
  | cons x xs =>
    have hx := h x (by simp)
    unfold joinB at hb
    rcases List.mem_append.1 hb with hb | hb
    · exact Or.inr (db_bytes (by omega) b hb)
    · exact tail_bytes xs (fun y hy => h y (by simp [hy])) b hb
theorem wordB_not {b c : UInt8} (h : WordB b) (hc : c.toNat ≠ 32 ∧ (c.toNat < 48 ∨ 57 < c.toNat)) : c ≠ b := by
  rintro rfl
  rcases h with h | h <;> omega
theorem trim_list (l : List Int) (h : ∀ x ∈ l, 0 ≤ x ∧ x < 100) : Lib.trimS (listB l) [123, 125] = joinB l := by
  have hj := join_bytes l h
  have hn : ∀ b ∈ joinB l, ([123, 125] : List UInt8).contains b = false := by
    intro b hb
    have h1 := wordB_not (c := 123) (hj b hb) (by decide)
    have h2 := wordB_not (c := 125) (hj b hb) (by decide)
    simp [Ne.symm h1, Ne.symm h2]
  have stay : ∀ m : List UInt8, (∀ b ∈ m, ([123, 125] : List UInt8).contains b = false) → m.dropWhile (([123, 125] : List UInt8).contains ·) = m := by
    intro m hm
    cases m with
    | nil => rfl
    | cons a t => rw [List.dropWhile_cons, hm a (by simp)]; rfl
  unfold Lib.trimS Lib.trimRightS Lib.trimLeftS listB
  generalize joinB l = m at *
  rw [List.reverse_cons, List.reverse_append]
  show (List.dropWhile _ (List.dropWhile _ (125 :: (m.reverse ++ [123]))).reverse) = m
  rw [List.dropWhile_cons, if_pos (by decide)]
  cases hm : m.reverse with
  | nil =>
    have : m = [] := by simpa using hm
    subst this
    decide
  | cons a t =>
    have ha : ([123, 125] : List UInt8).contains a = false := hn a (by rw [← List.mem_reverse, hm]; simp)
    show (List.dropWhile _ (List.dropWhile _ (a :: (t ++ [123]))).reverse) = m
    rw [List.dropWhile_cons, ha, if_neg (by decide)]
    rw [show (a :: (t ++ [123])) = (a :: t) ++ [123] from rfl, ← hm, List.reverse_append, List.reverse_reverse]
    show List.dropWhile _ (123 :: m) = m
    rw [List.dropWhile_cons, if_pos (by decide)]
    exact stay m hn
theorem fg_cons (cur : List UInt8) (b : UInt8) (l : List UInt8) : Lib.fieldsGo cur (b :: l) = if Lib.isSp b then (if cur.isEmpty then Lib.fieldsGo [] l else cur :: Lib.fieldsGo [] l) else Lib.fieldsGo (cur ++ [b]) l := by
  rw [Lib.fieldsGo]
theorem fg_nil (cur : List UInt8) : Lib.fieldsGo cur [] = if cur.isEmpty then [] else [cur] := by
  rw [Lib.fieldsGo]
theorem fieldsGo_word : ∀ (w cur r : List UInt8), (∀ b ∈ w, Lib.isSp b = false) → Lib.fieldsGo cur (w ++ r) = Lib.fieldsGo (cur ++ w) r
  | [], cur, r, _ => by simp
  | b :: w, cur, r, h => by
    show Lib.fieldsGo cur (b :: (w ++ r)) = _
    rw [fg_cons, h b (by simp), if_neg (by decide), fieldsGo_word w (cur ++ [b]) r (fun x hx => h x (by simp [hx]))]
    simp
theorem db_noSp {n : Nat} (h : n < 100) : ∀ b ∈ db n, Lib.isSp b = false := by
  intro b hb
  have := db_bytes h b hb
  unfold Lib.isSp
  simp only [Bool.or_eq_false_iff, beq_eq_false_iff_ne, ne_eq]
  refine ⟨⟨⟨⟨⟨?_, ?_⟩, ?_⟩, ?_⟩, ?_⟩, ?_⟩ <;> (rintro rfl; revert this; decide)
theorem db_ne (n : Nat) : (db n).isEmpty = false := by
  unfold db digX bytesI
  split <;> rfl
theorem fieldsGo_tail : ∀ (l : List Int) (w : List UInt8), w.isEmpty = false → (∀ x ∈ l, 0 ≤ x ∧ x < 100) → Lib.fieldsGo w (tailB l) = w :: l.map (fun x => db x.toNat)
  | [], w, hw, _ => by
    show Lib.fieldsGo w [] = [w]
    rw [fg_nil, hw, if_neg (by decide)]
  | x :: xs, w, hw, h => by
    have hx := h x (by simp)
    show Lib.fieldsGo w (32 :: (db x.toNat ++ tailB xs)) = _
    rw [fg_cons, if_pos (by decide), hw, if_neg (by decide), fieldsGo_word _ _ _ (db_noSp (by omega))]
    rw [List.nil_append, fieldsGo_tail xs _ (db_ne _) (fun y hy => h y (by simp [hy]))]
    rfl
theorem fields_join (l : List Int) (h : ∀ x ∈ l, 0 ≤ x ∧ x < 100) : Lib.fieldsD (joinB l) = l.map (fun x => db x.toNat) := by
  rw [Lib.fieldsD_ascii _ (fun b hb => by rcases join_bytes l h b hb with h | h <;> omega)]
  unfold Lib.fields
  cases l with
  | nil => rfl
  | cons x xs =>
    have hx := h x (by simp)
    show Lib.fieldsGo [] (db x.toNat ++ tailB xs) = _
    rw [fieldsGo_word _ _ _ (db_noSp (by omega)), List.nil_append, fieldsGo_tail xs _ (db_ne _) (fun y hy => h y (by simp [hy]))]
    rfl
theorem rdW_all : ∀ n, n < 100 → rdW (db n) = (n : Int) := by decide +kernel
theorem rdS_list (l : List Int) (h : ∀ x ∈ l, 0 ≤ x ∧ x < 100) : rdS (listB l) = l := by
  unfold rdS
  rw [trim_list l h, fields_join l h, List.map_map]
  conv => rhs; rw [← List.map_id l]
  refine List.map_congr_left fun x hx => ?_
  have := h x hx
  show rdW (db x.toNat) = x
  rw [rdW_all _ (by omega)]
  omega
theorem listB_no {l : List Int} (h : ∀ x ∈ l, 0 ≤ x ∧ x < 100) {c : UInt8} (h1 : c ≠ 123) (h2 : c ≠ 125) (hc : c.toNat ≠ 32 ∧ (c.toNat < 48 ∨ 57 < c.toNat)) : c ∉ listB l := by
  unfold listB
  simp only [List.mem_cons, List.mem_append, List.not_mem_nil, or_false, not_or]
  exact ⟨h1, fun hb => wordB_not (join_bytes l h c hb) hc rfl, h2⟩
theorem db_no {n : Nat} (h : n < 100) {c : UInt8} (hc : c.toNat < 48 ∨ 57 < c.toNat) : c ∉ db n := fun hb => by have := db_bytes h c hb; omega
/-- THE PROGRAM's WAY OF READING gives a family's text back -/
theorem read_prog {lo hi : List Int} {mn mx : Nat} (x1 : ∀ x ∈ lo, 0 ≤ x ∧ x < 100) (x2 : ∀ x ∈ hi, 0 ≤ x ∧ x < 100) (m1 : mn < 100) (m2 : mx < 100) :
    pLo (famT lo hi mn mx) = lo ∧ pHi (famT lo hi mn mx) = hi ∧ pMn (famT lo hi mn mx) = mn ∧ pMx (famT lo hi mn mx) = mx := by
  have e1 : Lib.cut (famT lo hi mn mx) hash = (listB lo ++ (dots ++ listB hi), db mn ++ (dots ++ db mx), true) := by
    have := cut_at 35 [32] (db mn ++ (dots ++ db mx)) (listB lo ++ (dots ++ listB hi)) (by decide) (by
      simp only [List.mem_append, not_or]
      exact ⟨listB_no x1 (by decide) (by decide) (by decide), by decide, listB_no x2 (by decide) (by decide) (by decide)⟩)
    unfold famT
    simpa [hash, List.append_assoc] using this
  have e2 : Lib.cut (listB lo ++ (dots ++ listB hi)) dots = (listB lo, listB hi, true) :=
    cut_at 46 [46, 32] (listB hi) (listB lo) (by decide) (listB_no x1 (by decide) (by decide) (by decide))
  have e3 : Lib.cut (db mn ++ (dots ++ db mx)) dots = (db mn, db mx, true) :=
    cut_at 46 [46, 32] (db mx) (db mn) (by decide) (db_no m1 (by decide))
  unfold pLo pHi pMn pMx ctA ctB
  rw [e1]
  simp only [e2, e3]
  exact ⟨rdS_list lo x1, rdS_list hi x2, rdW_all _ m1, rdW_all _ m2⟩
end Go.Proofs.YtcbjkclajkjicaaGreatDoor

/-
  Reading a family's text: the program's read, of any text.
-/
namespace Go.Proofs.YtcbjkclajkjicaaGreatDoor
set_option linter.unusedSimpArgs false
set_option linter.unusedVariables false
open Go Go.RowKit Go.Lib Go.Ev

theorem rdW_range (l : List UInt8) : -9223372036854775808 ≤ rdW l ∧ rdW l ≤ 9223372036854775807 := by
  unfold rdW
  rcases h : Lib.atoiAll l with v | _ | _
  · show _ ≤ v ∧ v ≤ _
    unfold Lib.atoiAll at h
    cases l with
    | nil => cases h
    | cons c r =>
      simp only at h
      split at h
      · cases h
      · cases h
      · split at h
        · cases h
        · split at h
          · cases h
          · injection h with h
            split at h <;> omega
  · exact ⟨by show (-9223372036854775808 : Int) ≤ 0; decide, by show (0 : Int) ≤ 9223372036854775807; decide⟩
  · show _ ≤ Lib.atoiSat l ∧ _
    unfold Lib.atoiSat
    split <;> decide
theorem fieldsGoD_facts : ∀ (f : Nat) (cur l : List UInt8), (Lib.fieldsGoD f cur l).length ≤ l.length + (if cur = [] then 0 else 1) ∧ ∀ x ∈ Lib.fieldsGoD f cur l, x.length ≤ cur.length + l.length
  | 0, cur, l => by
    rw [Lib.fieldsGoD]
    by_cases hc : cur = []
    · rw [if_pos hc]; exact ⟨Nat.zero_le _, fun x hx => by cases hx⟩
    · rw [if_neg hc, if_neg hc]; exact ⟨by simp, fun x hx => by obtain rfl := List.mem_singleton.1 hx; omega⟩
  | f + 1, cur, l => by
    rw [Lib.fieldsGoD]
    by_cases hl : l = []
    · rw [if_pos hl]
      by_cases hc : cur = []
      · rw [if_pos hc]; exact ⟨Nat.zero_le _, fun x hx => by cases hx⟩
      · rw [if_neg hc, if_neg hc]; exact ⟨by simp, fun x hx => by obtain rfl := List.mem_singleton.1 hx; omega⟩
    · rw [if_neg hl]
      generalize (Lib.decodeL l).2 = k
      have hdl : (l.drop k).length ≤ l.length := by rw [List.length_drop]; omega
      by_cases hs : Lib.isSpaceR (Lib.decodeL l).1 = true
      · rw [if_pos hs]
        obtain ⟨h1, h2⟩ := fieldsGoD_facts f [] (l.drop k)
        rw [if_pos rfl] at h1
        by_cases hc : cur = []
        · rw [if_pos hc, if_pos hc, List.nil_append]
          exact ⟨by omega, fun x hx => by have := h2 x hx; simp only [List.length_nil] at this; omega⟩
        · rw [if_neg hc, if_neg hc]
          refine ⟨by simp; omega, fun x hx => ?_⟩
          rcases List.mem_append.1 hx with hx | hx
          · obtain rfl := List.mem_singleton.1 hx; omega
          · have := h2 x hx; simp only [List.length_nil] at this; omega
      · rw [if_neg hs]
        obtain ⟨h1, h2⟩ := fieldsGoD_facts f (cur ++ l.take k) (l.drop k)
        refine ⟨?_, fun x hx => ?_⟩
        · by_cases hc : cur ++ l.take k = []
          · rw [if_pos hc] at h1; omega
          · rw [if_neg hc] at h1
            by_cases hc2 : cur = []
            · rw [if_pos hc2]
              have : l.take k ≠ [] := fun e => hc (by rw [hc2, e]; rfl)
              have hk : 0 < k := by rcases Nat.eq_zero_or_pos k with h | h; · subst h; simp at this
                                    · exact h
              have hl0 : 0 < l.length := by cases l with | nil => exact absurd rfl hl | cons a t => simp
              rw [List.length_drop] at h1
              omega
            · rw [if_neg hc2]; omega
        · have := h2 x hx
          rw [List.length_append, List.length_take, List.length_drop] at this
          omega
theorem fieldsD_facts (l : List UInt8) : (Lib.fieldsD l).length ≤ l.length ∧ ∀ x ∈ Lib.fieldsD l, x.length ≤ l.length := by
  obtain ⟨h1, h2⟩ := fieldsGoD_facts (l.length + 1) [] l
  rw [if_pos rfl] at h1
  exact ⟨h1, fun x hx => by have := h2 x hx; simpa using this⟩
theorem dropWhile_len (p : UInt8 → Bool) : ∀ l : List UInt8, (l.dropWhile p).length ≤ l.length
  | [] => Nat.le_refl _
  | a :: t => by
    rw [List.dropWhile_cons]
    split
    · have := dropWhile_len p t; simp; omega
    · exact Nat.le_refl _
theorem trimS_len (l cs : List UInt8) : (Lib.trimS l cs).length ≤ l.length := by
  unfold Lib.trimS Lib.trimLeftS Lib.trimRightS
  refine Nat.le_trans (dropWhile_len _ _) ?_
  rw [List.length_reverse]
  exact Nat.le_trans (dropWhile_len _ _) (by simp)
theorem cut_len (s q : List UInt8) : (Lib.cut s q).1.length ≤ s.length ∧ (Lib.cut s q).2.1.length ≤ s.length := by
  unfold Lib.cut
  split
  · exact ⟨by simp [List.length_take]; omega, by simp [List.length_drop]⟩
  · exact ⟨Nat.le_refl _, Nat.zero_le _⟩

/-- what the library's calls read lies as it is laid -/
def LibIn (w : World) : Prop := (∃ m, w.cell? ⟨3, 0, none⟩ = some (.int .i64 m)) ∧ Lib.TabIs Tryz.prog w "strings.asciiSpace" .u8 Lib.asciiSpaceTab ∧ Lib.WhiteTab 4 w ∧
  (∃ tp p, w.cell? ⟨5, 0, none⟩ = some (.iface tp p)) ∧ (∃ tp p, w.cell? ⟨6, 0, none⟩ = some (.iface tp p))
theorem cell_over {w w' : World} {a : Addr} {v : Value} (h : w.cell? a = some v) (k : Below w.heap.size w w') : w'.cell? a = some v := by
  have lt : a.block < w.heap.size := by
    rcases Nat.lt_or_ge a.block w.heap.size with h' | h'
    · exact h'
    · simp [World.cell?, Array.getElem?_eq_none h'] at h
  exact (k.cell lt).trans h
theorem tabIs_over {n : String} {g : Nat} {k : IntKind} {zs : List Int} {w w' : World} (hg : Tryz.prog.globalNamed n = some g) (h : Lib.TabIs Tryz.prog w n k zs) (hb : Below w.heap.size w w') : Lib.TabIs Tryz.prog w' n k zs := by
  unfold Lib.TabIs World.var? at *
  rw [hg] at h ⊢
  simp only [Option.bind_some] at h ⊢
  have lt : g < w.heap.size := by
    rcases Nat.lt_or_ge g w.heap.size with h' | h'
    · exact h'
    · simp [Array.getElem?_eq_none h'] at h
  rw [hb.block g lt]
  exact h
theorem LibIn.over {w w' : World} (h : LibIn w) (k : Below w.heap.size w w') : LibIn w' := by
  obtain ⟨⟨m, h1⟩, h2, h3, ⟨t1, p1, h4⟩, ⟨t2, p2, h5⟩⟩ := h
  exact ⟨⟨m, cell_over h1 k⟩, tabIs_over (g := 0) (by kernel_rfl) h2 k, WhiteTab_below h3 k, ⟨t1, p1, cell_over h4 k⟩, ⟨t2, p2, cell_over h5 k⟩⟩

theorem st_data (l : List UInt8) : (st l).data.toList = l := by simp [st]
theorem cut_any (l q : List UInt8) (h1 : l.length ≤ 1000000) (w : World) (h : LibIn w) :
    Calls Tryz.prog 36 #[.string (st l), .string (st q)] w fun e w' => e = .returned (.tuple #[.string (st (Lib.cut l q).1), .string (st (Lib.cut l q).2.1), .bool (Lib.cut l q).2.2]) ∧ Below w.heap.size w w' := by
  obtain ⟨⟨m, hm⟩, _⟩ := h
  refine (Tryz.strings_Cut (st l) (st q) m w (by rw [st_size]; omega) hm).mono ?_
  rintro e w' ⟨rfl, n, rfl⟩
  rw [st_data, st_data]
  exact ⟨rfl, drewN_below w n⟩
theorem trim_any (l : List UInt8) (h1 : l.length ≤ 1000000) (w : World) :
    Calls Tryz.prog 65 #[.string (st l), .string ⟨#[123, 125]⟩] w fun e w' => e = .returned (.string (st (Lib.trimS l [123, 125]))) ∧ Below w.heap.size w w' := by
  refine (Any.strings_Trim_laid Tryz.lays160 (by kernel_rfl) (st l) ⟨#[123, 125]⟩ w (by rw [st_size]; omega) (by decide) (ascii_of_all (by decide))).mono ?_
  rintro e w' ⟨rfl, hb⟩
  rw [st_data]
  exact ⟨rfl, hb⟩
theorem atoi_any (l : List UInt8) (h1 : l.length ≤ 1000000) (w : World) (h : LibIn w) :
    Calls Tryz.prog 66 #[.string (st l)] w fun e w' => (∃ v, e = .returned (.tuple #[.int .i64 (rdW l), v])) ∧ Below w.heap.size w w' := by
  obtain ⟨_, _, _, ⟨t1, p1, h4⟩, ⟨t2, p2, h5⟩⟩ := h
  unfold rdW
  rcases ha : Lib.atoiAll l with v | _ | _
  · refine (Tryz.strconv_Atoi_ok (st l) (by rw [st_size]; omega) v (by rw [st_data]; exact ha) w).mono ?_
    rintro e w' ⟨rfl, rfl | ⟨t, rfl⟩⟩
    · exact ⟨⟨_, rfl⟩, Below.refl _ _⟩
    · exact ⟨⟨_, rfl⟩, ⟨rfl, rfl, rfl, by rw [Lib.bytesWorld_size]; omega, fun k hk => Lib.bytesWorld_at_old _ _ _ k (by omega)⟩⟩
  · refine (Any.strconv_Atoi_syntax Tryz.laysC172 (st l) (by rw [st_size]; omega) (by rw [st_data]; exact ha) _ w h4 (Or.inr ⟨t1, p1, rfl⟩)).mono ?_
    rintro e w' ⟨N, rfl, _, _, hb⟩
    exact ⟨⟨_, rfl⟩, hb⟩
  · refine (Tryz.strconv_Atoi_range (st l) (by rw [st_size]; omega) (by rw [st_data]; exact ha) _ w h5 (Or.inr ⟨t2, p2, rfl⟩)).mono ?_
    rintro e w' ⟨N, rfl, _, _, hb⟩
    rw [st_data]
    exact ⟨⟨_, rfl⟩, hb⟩
theorem readNumber_any (l : List UInt8) (h1 : l.length ≤ 1000000) (w : World) (h : LibIn w) :
    Calls Tryz.prog 38 #[.string (st l)] w fun e w' => e = .returned (.int .i64 (rdW l)) ∧ Below w.heap.size w w' := by
  have AT := Lib.hid (atoi_any l h1 w h)
  clear h1 h
  go_enter Tryz.func38, Tryz.ntmps38
  go_wp2_with (go_at_call 66; refine AT.out.mono ?_; rintro e w1 ⟨⟨v, rfl⟩, hb⟩; have HB := Lib.hid hb; clear hb)
  go_ret
  exact ⟨rfl, HB.out⟩
end Go.Proofs.YtcbjkclajkjicaaGreatDoor

/-
  Reading a family's text: the program's readSet and read, of any text.
-/
namespace Go.Proofs.YtcbjkclajkjicaaGreatDoor
set_option linter.unusedSimpArgs false
set_option linter.unusedVariables false
open Go Go.RowKit Go.Lib Go.Ev

/-- words that lie in a row -/
def WordRow (w : World) (g : Nat) (ws : List (List UInt8)) : Prop := g < w.heap.size ∧ ∀ j (h : j < ws.length), w.cell? ⟨g, j, none⟩ = some (.string (st ws[j]))
theorem WordRow.over {w w' : World} {g : Nat} {ws : List (List UInt8)} (h : WordRow w g ws) (k : Below w.heap.size w w') : WordRow w' g ws := ⟨Nat.lt_of_lt_of_le h.1 k.size, fun j hj => (k.cell (p := ⟨g, j, none⟩) h.1).trans (h.2 j hj)⟩
theorem fields_any (l : List UInt8) (h1 : l.length ≤ 1000000) (w : World) (h : LibIn w) :
    Calls Tryz.prog 64 #[.string (st l)] w fun e w' => (∃ A, e = .returned (.slice (some ⟨A, 0, none⟩) (Lib.fieldsD l).length (Lib.fieldsD l).length) ∧ WordRow w' A (Lib.fieldsD l)) ∧ Below w.heap.size w w' := by
  refine (Tryz.strings_Fields_any (st l) w (by rw [st_size]; omega) h.2.1 h.2.2.1).mono ?_
  rintro e w' ⟨A, rfl, hA, hr, hb⟩
  rw [st_data] at hr ⊢
  refine ⟨⟨A, rfl, ?_⟩, hb⟩
  obtain ⟨q1, q2⟩ := hr
  rcases q2 with ⟨h0, hz⟩ | ⟨g, cap, cur, hv, hb2, hg, hc, hm, hs, ht⟩
  · injection h0 with h0; cases h0
  · injection hv with hv
    injection hv with hv
    injection hv with hv
    subst hv
    refine ⟨(Array.getElem?_eq_some_iff.1 hg).1, fun i hi => ?_⟩
    have e : ((Lib.fieldsD l).map fun x => Value.string ⟨x.toArray⟩)[i]? = some (.string (st (Lib.fieldsD l)[i])) := by rw [List.getElem?_map, List.getElem?_eq_getElem hi]; rfl
    rw [← ht, List.getElem?_take, if_pos (by omega)] at e
    simp only [World.cell?, hg]
    simpa using e
theorem wrap_k (k : Nat) (h : k ≤ 1000000) : wrap64 ((k : Int) + 1) = (k : Int) + 1 := by unfold wrap64; omega
theorem ints_oneR (w : World) (m : Int) (h : -9223372036854775808 ≤ m ∧ m ≤ 9223372036854775807) : Ints (w.alloc (.cells #[.int .i64 m] 3)) (some ⟨w.heap.size, 0, none⟩) [m] := by
  refine ⟨by simp, fun x hx => by obtain rfl := List.mem_singleton.1 hx; exact h, fun _ => ⟨w.heap.size, 0, rfl, by simp, fun i hi => ?_⟩⟩
  obtain rfl : i = 0 := by simp at hi; omega
  simp [World.cell?_alloc_new]
set_option maxRecDepth 100000 in
set_option maxHeartbeats 8000000 in
theorem readSet_any (s : List UInt8) (h1 : s.length ≤ 1000000) (w : World) (hL : LibIn w) : Calls Tryz.prog 37 #[.string (st s)] w fun e w' => (∃ A c, e = .returned (.slice A (rdS s).length c) ∧ Ints w' A (rdS s) ∧ (∀ b o, A = some ⟨b, o, none⟩ → w.heap.size ≤ b)) ∧ Below w.heap.size w w' := by
  have tl := trimS_len s [123, 125]
  have TR := Lib.hid (trim_any s h1 w)
  obtain ⟨q, hq⟩ : ∃ q, Lib.trimS s [123, 125] = q := ⟨_, rfl⟩
  have FD := Lib.hid (fun w1 (h : Below w.heap.size w w1) => fields_any q (by rw [← hq]; omega) w1 (hL.over h))
  obtain ⟨ff1, ff2⟩ := fieldsD_facts q
  have HS := Lib.hid (show rdS s = (Lib.fieldsD q).map rdW from by unfold rdS; rw [hq])
  rw [hq] at TR
  have FW := Lib.hid (show ∀ x ∈ Lib.fieldsD q, x.length ≤ 1000000 from fun x hx => by have := ff2 x hx; rw [hq] at tl; omega)
  have FL := Lib.hid (show (Lib.fieldsD q).length ≤ 1000000 from by rw [hq] at tl; omega)
  have HL := Lib.hid hL
  rw [HS.out]
  clear tl ff1 ff2 hq hL HS h1
  generalize Lib.fieldsD q = ws at *
  go_enter Tryz.func37, Tryz.ntmps37
  go_wp2_with (first | (go_at_call 65; refine TR.out.mono ?_; rintro e w1 ⟨rfl, hb⟩; have B1 := Lib.hid hb; clear hb TR) | (go_at_call 64; refine (FD.out _ B1.out).mono ?_; rintro e w2 ⟨⟨A, rfl, hr⟩, hb⟩; have WR := Lib.hid hr; have B2 := Lib.hid (B1.out.trans (hb.mono B1.out.size)); clear hb hr FD B1))
  go_loopw [2, 9] (fun v i wr => ∃ (k : Nat) (a : List Int), k ≤ ws.length ∧ a.length = k ∧ i = .int .i64 k ∧ wr.ownsRow w2.heap.size 3 1 v a.length (a.map (Value.int .i64)) ∧ (ws.take k).map rdW = a ∧ Below w2.heap.size w2 wr) (fun _ i _ => ws.length - (intOf i).toNat)
  case atStart => exact ⟨0, [], Nat.zero_le _, rfl, rfl, World.ownsRow_nil _ _ _ _, rfl, Below.refl _ _⟩
  case round =>
    obtain ⟨k, a, hk, hak, rfl, hown, ha, hbw⟩ := hrel
    obtain ⟨w3, rfl⟩ : ∃ x, x = wr := ⟨_, rfl⟩
    have hin : ∀ x ∈ a, -9223372036854775808 ≤ x ∧ x ≤ 9223372036854775807 := fun x hx => by
      rw [← ha] at hx
      obtain ⟨y, _, rfl⟩ := List.mem_map.1 hx
      exact rdW_range y
    have OW := Lib.hid hown
    obtain ⟨G, cap, rfl, hi, hgb⟩ := ints_of_owns hown (by have := FL.out; omega) hin
    have GB := Lib.hid hgb
    have II := Lib.hid hi
    have BW := Lib.hid hbw
    have AA := Lib.hid ha
    have AK := Lib.hid hak
    have BV := Lib.hid (B2.out.trans (hbw.mono B2.out.size))
    have LW := Lib.hid (HL.out.over BV.out)
    have W3 := Lib.hid (WR.out.over hbw)
    clear hin hown hi hgb hbw ha
    by_cases hlt : k < ws.length
    · have x1 := W3.out.2 k hlt
      have FWk := FW.out _ (List.getElem_mem hlt)
      have TK := Lib.hid (show (ws.take (k + 1)).map rdW = a ++ [rdW ws[k]] from by rw [List.take_add_one, List.map_append, AA.out, List.getElem?_eq_getElem hlt]; rfl)
      have RG := Lib.hid (rdW_range ws[k])
      generalize ws[k] = q1 at *
      have NM := Lib.hid (fun w1 (h : Below w3.heap.size w3 w1) => readNumber_any q1 FWk w1 (LW.out.over h))
      have ZA := Lib.hid (show a.length + 1 ≤ 1000000 from by have := FL.out; omega)
      have z1 : (k : Int) < (ws.length : Int) := by omega
      have z2 : (0 : Int) ≤ (k : Int) := by omega
      have WK := Lib.hid (wrap_k k (by have := FL.out; omega))
      clear FWk hak
      generalize rdW q1 = m at *
      go_wp2_with (first | (go_at_call 38; refine (NM.out _ (by first | exact Below.refl _ _ | exact (Below.refl _ _).drew)).mono ?_; rintro e w4 ⟨rfl, hb⟩; have B4 := Lib.hid (BW.out.trans (hb.mono BW.out.size)); have OW4 := Lib.hid (owns_belowX OW.out hb); clear hb NM) | (at_builtin; refine wpList_append_ints rfl _ _ rfl w2.heap.size _ a (by go_simp) (OW4.out.alloc _) (some ⟨w4.heap.size, 0, none⟩) 1 [m] (by go_simp) (ints_oneR w4 m RG.out) (fun h => by cases h) ZA.out (Nat.le_trans B4.out.size (by simp)) ?_; intro v' w5 ho' hg'; have HO := Lib.hid ho'; have HG := Lib.hid (Below.grown (B4.out.alloc B4.out.size _) hg' (Nat.le_trans B4.out.size (by simp)) (fun j e => (OW4.out.lt j e).1)); clear ho' hg'))
      go_roundw
      case rel => exact ⟨k + 1, a ++ [m], hlt, by have := AK.out; simp; omega, by go_simp; exact WK.out, HO.out, TK.out, HG.out⟩
      case measure =>
        rw [WK.out]
        simp only [intOf]
        omega
    · obtain rfl : k = ws.length := by omega
      have z1 : ¬ (ws.length : Int) < (ws.length : Int) := by omega
      have z2 : (0 : Int) ≤ (ws.length : Int) := by omega
      have AE := Lib.hid (show ws.map rdW = a from by rw [← AA.out, List.take_length])
      go_wp2_with fail
      go_ret
      rw [AE.out]
      exact ⟨⟨G, ⟨cap, rfl⟩, II.out, fun b o e => Nat.le_trans B2.out.size (GB.out b o e)⟩, BV.out⟩
end Go.Proofs.YtcbjkclajkjicaaGreatDoor

/-
  Reading a family's text: the program's read, of any text.
-/
namespace Go.Proofs.YtcbjkclajkjicaaGreatDoor
set_option linter.unusedSimpArgs false
set_option linter.unusedVariables false
open Go Go.RowKit Go.Lib Go.Ev

def ReadRes (lo hi : List Int) (mn mx : Int) (w : World) (e : Ending) (w' : World) : Prop := (∃ A ca B cb, e = .returned (.agg #[.slice A lo.length ca, .slice B hi.length cb, .int .i64 mn, .int .i64 mx]) ∧ Ints w' A lo ∧ Ints w' B hi ∧ (∀ b o, A = some ⟨b, o, none⟩ → w.heap.size ≤ b) ∧ (∀ b o, B = some ⟨b, o, none⟩ → w.heap.size ≤ b)) ∧ Below w.heap.size w w'
set_option maxRecDepth 100000 in
set_option maxHeartbeats 8000000 in
theorem read_any (s : List UInt8) (h1 : s.length ≤ 1000000) (w : World) (hL : LibIn w) :
    Calls Tryz.prog 19 #[.string (st s)] w (ReadRes (pLo s) (pHi s) (pMn s) (pMx s) w) := by
  obtain ⟨l1, l2⟩ := cut_len s hash
  unfold pLo pHi pMn pMx ctA ctB
  have CT := Lib.hid (fun (l q : List UInt8) (h : l.length ≤ 1000000) w1 (k : Below w.heap.size w w1) => cut_any l q h w1 (hL.over k))
  have CS := Lib.hid (fun (l : List UInt8) (h : l.length ≤ 1000000) w1 (k : Below w.heap.size w w1) => readSet_any l h w1 (hL.over k))
  have CN := Lib.hid (fun (l : List UInt8) (h : l.length ≤ 1000000) w1 (k : Below w.heap.size w w1) => readNumber_any l h w1 (hL.over k))
  have C1 := Lib.hid (fun w1 (k : Below w.heap.size w w1) => CT.out s hash h1 w1 k)
  generalize Lib.cut s hash = R1 at *
  obtain ⟨p1, p2, p3⟩ := R1
  simp only at l1 l2 ⊢
  have q1 : p1.length ≤ 1000000 := by omega
  have q2 : p2.length ≤ 1000000 := by omega
  obtain ⟨l3, l4⟩ := cut_len p1 dots
  obtain ⟨l5, l6⟩ := cut_len p2 dots
  have C2 := Lib.hid (fun w1 (k : Below w.heap.size w w1) => CT.out p1 dots q1 w1 k)
  have C3 := Lib.hid (fun w1 (k : Below w.heap.size w w1) => CT.out p2 dots q2 w1 k)
  generalize Lib.cut p1 dots = R2 at *
  generalize Lib.cut p2 dots = R3 at *
  obtain ⟨t1, t2, t3⟩ := R2
  obtain ⟨u1, u2, u3⟩ := R3
  simp only at l3 l4 l5 l6 ⊢
  have D1 := Lib.hid (fun w1 (k : Below w.heap.size w w1) => CS.out t1 (by omega) w1 k)
  have D2 := Lib.hid (fun w1 (k : Below w.heap.size w w1) => CS.out t2 (by omega) w1 k)
  have D3 := Lib.hid (fun w1 (k : Below w.heap.size w w1) => CN.out u1 (by omega) w1 k)
  have D4 := Lib.hid (fun w1 (k : Below w.heap.size w w1) => CN.out u2 (by omega) w1 k)
  clear CT CS CN l1 l2 l3 l4 l5 l6 q1 q2 h1 hL
  generalize rdS t1 = lo at *
  generalize rdS t2 = hi at *
  generalize rdW u1 = mn at *
  generalize rdW u2 = mx at *
  obtain ⟨Q, hQ⟩ : ∃ Q, ReadRes lo hi mn mx w = Q := ⟨_, rfl⟩
  rw [hQ]
  have QH := Lib.hid hQ
  clear hQ
  go_enter Tryz.func19, Tryz.ntmps19
  go_upto_region 1 with fail
  have F2 := Lib.hid (show F4 (w.alloc (.cells #[.slice none 0 0, .slice none 0 0, .int .i64 0, .int .i64 0] 24)) w.heap.size (.slice none 0 0) (.slice none 0 0) (.int .i64 0) (.int .i64 0) from heap_alloc_new w (.cells #[.slice none 0 0, .slice none 0 0, .int .i64 0, .int .i64 0] 24))
  have BW := Lib.hid (show Below w.heap.size w (w.alloc (.cells #[.slice none 0 0, .slice none 0 0, .int .i64 0, .int .i64 0] 24)) from (Below.refl _ w).alloc (Nat.le_refl _) _)
  have SZ := Lib.hid (show w.heap.size + 1 ≤ (w.alloc (.cells #[.slice none 0 0, .slice none 0 0, .int .i64 0, .int .i64 0] 24)).heap.size from by simp)
  generalize (w.alloc (.cells #[.slice none 0 0, .slice none 0 0, .int .i64 0, .int .i64 0] 24)) = y0 at *
  go_upto_region 2 with (go_at_call 36; refine (C1.out _ BW.out).mono ?_; rintro e y1 ⟨rfl, hb⟩; replace F2 := Lib.hid (F2.out.over hb); replace BW := Lib.hid (BW.out.trans (hb.mono BW.out.size)); replace SZ := Lib.hid (Nat.le_trans SZ.out hb.size); clear hb C1)
  go_upto_region 3 with (go_at_call 36; refine (C2.out _ BW.out).mono ?_; rintro e y2 ⟨rfl, hb⟩; replace F2 := Lib.hid (F2.out.over hb); replace BW := Lib.hid (BW.out.trans (hb.mono BW.out.size)); replace SZ := Lib.hid (Nat.le_trans SZ.out hb.size); clear hb C2)
  go_upto_region 4 with (go_at_call 36; refine (C3.out _ BW.out).mono ?_; rintro e y3 ⟨rfl, hb⟩; replace F2 := Lib.hid (F2.out.over hb); replace BW := Lib.hid (BW.out.trans (hb.mono BW.out.size)); replace SZ := Lib.hid (Nat.le_trans SZ.out hb.size); clear hb C3)
  go_wp2_with (first | (go_at_call 37; refine (D1.out _ BW.out).mono ?_; rintro e y4 ⟨⟨A, ca, rfl, i1, hA⟩, hb⟩; have I1 := Lib.hid i1; have NA := Lib.hid (show ∀ b o, A = some ⟨b, o, none⟩ → w.heap.size + 1 ≤ b from fun b o e => Nat.le_trans SZ.out (hA b o e)); replace F2 := Lib.hid (F2.out.over hb); replace BW := Lib.hid (BW.out.trans (hb.mono BW.out.size)); replace SZ := Lib.hid (Nat.le_trans SZ.out hb.size); clear hb D1 i1 hA) | (go_at_call 37; refine (D2.out _ BW.out).mono ?_; rintro e y5 ⟨⟨B, cb, rfl, i2, hB⟩, hb⟩; have I2 := Lib.hid i2; have NB := Lib.hid (show ∀ b o, B = some ⟨b, o, none⟩ → w.heap.size + 1 ≤ b from fun b o e => Nat.le_trans SZ.out (hB b o e)); replace I1 := Lib.hid (I1.out.over hb); replace F2 := Lib.hid (F2.out.over hb); replace BW := Lib.hid (BW.out.trans (hb.mono BW.out.size)); replace SZ := Lib.hid (Nat.le_trans SZ.out hb.size); clear hb D2 i2 hB) | (go_at_call 38; refine (D3.out _ BW.out).mono ?_; rintro e y6 ⟨rfl, hb⟩; replace I1 := Lib.hid (I1.out.over hb); replace I2 := Lib.hid (I2.out.over hb); replace F2 := Lib.hid (F2.out.over hb); replace BW := Lib.hid (BW.out.trans (hb.mono BW.out.size)); replace SZ := Lib.hid (Nat.le_trans SZ.out hb.size); clear hb D3) | (go_at_call 38; refine (D4.out _ BW.out).mono ?_; rintro e y7 ⟨rfl, hb⟩; replace I1 := Lib.hid (I1.out.over hb); replace I2 := Lib.hid (I2.out.over hb); replace F2 := Lib.hid (F2.out.over hb); replace BW := Lib.hid (BW.out.trans (hb.mono BW.out.size)); replace SZ := Lib.hid (Nat.le_trans SZ.out hb.size); clear hb D4; obtain ⟨a0, a1, a2, a3, fa⟩ := F2.out.facts; have g0 := fa 0; have g1 := fa 1; have g2 := fa 2; have g3 := fa 3; clear fa))
  have PZ := (((F2.out.set0 (.slice A lo.length ca)).set1 (.slice B hi.length cb)).set2 (.int .i64 mn)).set3 (.int .i64 mx)
  have BZ := (((BW.out.setCell (p := ⟨w.heap.size, 0, none⟩) (Nat.le_refl _) (.slice A lo.length ca)).setCell (p := ⟨w.heap.size, 1, none⟩) (Nat.le_refl _) (.slice B hi.length cb)).setCell (p := ⟨w.heap.size, 2, none⟩) (Nat.le_refl _) (.int .i64 mn)).setCell (p := ⟨w.heap.size, 3, none⟩) (Nat.le_refl _) (.int .i64 mx)
  refine bodyPost_ret (v := .agg #[.slice A lo.length ca, .slice B hi.length cb, .int .i64 mn, .int .i64 mx]) (results_cell_row rfl _ _ w.heap.size 24 _ (0, 0) _ rfl PZ Tryz.underlying24 rfl (by kernel_rfl)) rfl ?_
  have ja : ∀ o v (W : World), Ints W A lo → Ints (W.setCell ⟨w.heap.size, o, none⟩ v) A lo := fun o v W h => ints_set h (fun b o e => by have := NA.out b o e; omega)
  have jb : ∀ o v (W : World), Ints W B hi → Ints (W.setCell ⟨w.heap.size, o, none⟩ v) B hi := fun o v W h => ints_set h (fun b o e => by have := NB.out b o e; omega)
  rw [← QH.out]
  exact ⟨⟨A, ca, B, cb, rfl, ja _ _ _ (ja _ _ _ (ja _ _ _ (ja _ _ _ I1.out))), jb _ _ _ (jb _ _ _ (jb _ _ _ (jb _ _ _ I2.out))), fun b o e => by have := NA.out b o e; omega, fun b o e => by have := NB.out b o e; omega⟩, BZ⟩
end Go.Proofs.YtcbjkclajkjicaaGreatDoor
