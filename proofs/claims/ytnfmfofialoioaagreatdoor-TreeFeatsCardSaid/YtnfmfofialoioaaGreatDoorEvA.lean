/-
  A run of closed code, told by a plain function: the blocks that the code makes under numbers of its own, and where they lie in a world.
-/
import Derived.Below
import Derived.Orders
namespace Go.Ev
open Go Go.RowKit

/-! ### a table by a number's bits -/
inductive Tr (α : Type) where
  | leaf
  | node (l : Tr α) (v : Option α) (r : Tr α)

def Tr.getF {α : Type} : Nat → Tr α → Nat → Option α
  | 0, _, _ => none
  | _ + 1, .leaf, _ => none
  | f + 1, .node l v r, n => if n = 0 then v else if n % 2 = 1 then Tr.getF f l (n / 2) else Tr.getF f r (n / 2 - 1)

def Tr.putF {α : Type} : Nat → Tr α → Nat → Option α → Tr α
  | 0, t, _, _ => t
  | f + 1, .leaf, n, x => if n = 0 then .node .leaf x .leaf else if n % 2 = 1 then .node (Tr.putF f .leaf (n / 2) x) none .leaf else .node .leaf none (Tr.putF f .leaf (n / 2 - 1) x)
  | f + 1, .node l v r, n, x => if n = 0 then .node l x r else if n % 2 = 1 then .node (Tr.putF f l (n / 2) x) v r else .node l v (Tr.putF f r (n / 2 - 1) x)

def Tr.get {α : Type} (t : Tr α) (n : Nat) : Option α := Tr.getF (n + 1) t n
def Tr.put {α : Type} (t : Tr α) (n : Nat) (x : Option α) : Tr α := Tr.putF (n + 1) t n x

theorem Tr.getF_leaf {α : Type} : ∀ f n, Tr.getF f (.leaf : Tr α) n = none
  | 0, _ => rfl
  | _ + 1, _ => rfl

theorem Tr.get_put {α : Type} : ∀ (f g : Nat) (t : Tr α) (n m : Nat) (x : Option α), n < f → m < g →
    Tr.getF g (Tr.putF f t n x) m = if m = n then x else Tr.getF g t m := by
  intro f
  induction f with
  | zero => intro g t n m x h; omega
  | succ f ih =>
    intro g t n m x hn hm
    cases g with
    | zero => omega
    | succ g =>
      have half : ∀ k, k ≠ 0 → k / 2 < k := fun k hk => by omega
      cases t with
      | leaf =>
        simp only [Tr.putF]
        by_cases h0 : n = 0
        · subst h0
          simp only [if_true, Tr.getF]
          by_cases m0 : m = 0
          · simp [m0]
          · simp [m0, Tr.getF_leaf]
        · simp only [h0, if_false]
          by_cases h1 : n % 2 = 1
          · simp only [h1, if_true, Tr.getF]
            by_cases m0 : m = 0
            · have : ¬ m = n := by omega
              simp [m0]; intro; omega
            · by_cases m1 : m % 2 = 1
              · simp only [m0, if_false, m1, if_true]
                rw [ih g .leaf (n / 2) (m / 2) x (by omega) (by omega), Tr.getF_leaf]
                by_cases e : m = n
                · simp [e]
                · have : ¬ m / 2 = n / 2 := by omega
                  simp [e, this]
              · have e : ¬ m = n := fun e => m1 (e ▸ h1)
                simp [m0, m1, e, Tr.getF_leaf]
          · simp only [h1, if_false, Tr.getF]
            by_cases m0 : m = 0
            · have : ¬ m = n := by omega
              simp [m0]; intro; omega
            · by_cases m1 : m % 2 = 1
              · have e : ¬ m = n := fun e => h1 (e ▸ m1)
                simp [m0, m1, e, Tr.getF_leaf]
              · simp only [m0, if_false, m1]
                rw [ih g .leaf (n / 2 - 1) (m / 2 - 1) x (by omega) (by omega), Tr.getF_leaf]
                by_cases e : m = n
                · simp [e]
                · have : ¬ m / 2 - 1 = n / 2 - 1 := by omega
                  simp [e, this]
      | node l v r =>
        simp only [Tr.putF]
        by_cases h0 : n = 0
        · subst h0
          simp only [if_true, Tr.getF]
          by_cases m0 : m = 0 <;> simp [m0]
        · simp only [h0, if_false]
          by_cases h1 : n % 2 = 1
          · simp only [h1, if_true, Tr.getF]
            by_cases m0 : m = 0
            · have : ¬ m = n := by omega
              simp [m0]; intro; omega
            · by_cases m1 : m % 2 = 1
              · simp only [m0, if_false, m1, if_true]
                rw [ih g l (n / 2) (m / 2) x (by omega) (by omega)]
                by_cases e : m = n
                · simp [e]
                · have : ¬ m / 2 = n / 2 := by omega
                  simp [e, this]
              · have e : ¬ m = n := fun e => m1 (e ▸ h1)
                simp [m0, m1, e]
          · simp only [h1, if_false, Tr.getF]
            by_cases m0 : m = 0
            · have : ¬ m = n := by omega
              simp [m0]; intro; omega
            · by_cases m1 : m % 2 = 1
              · have e : ¬ m = n := fun e => h1 (e ▸ m1)
                simp [m0, m1, e]
              · simp only [m0, if_false, m1]
                rw [ih g r (n / 2 - 1) (m / 2 - 1) x (by omega) (by omega)]
                by_cases e : m = n
                · simp [e]
                · have : ¬ m / 2 - 1 = n / 2 - 1 := by omega
                  simp [e, this]

theorem Tr.get_put_eq {α : Type} (t : Tr α) (n m : Nat) (x : Option α) : (t.put n x).get m = if m = n then x else t.get m :=
  Tr.get_put (n + 1) (m + 1) t n m x (by omega) (by omega)
theorem Tr.get_leaf {α : Type} (n : Nat) : (Tr.leaf : Tr α).get n = none := Tr.getF_leaf _ _

/-! ### values under numbers of one's own, and where they lie -/
/-- Where a block lies: nowhere yet · no longer looked at · val: no block, but a value of one cell that the number stands for · in block B, from cell o on, of S cells; g: it was grown by append, as long as the tape told; s: the cells of an element. -/
inductive Pl where
  | none
  | dead
  | live (B o S : Nat) (g : Bool) (s : Nat)
  | val (v : Value)
abbrev Pm := Nat → Pl

def AR (φ : Pm) (a a' : Addr) : Prop :=
  match φ a.block with
  | .none => False
  | .dead => True
  | .val _ => False
  | .live B o _ _ _ => a.spot = Option.none ∧ a' = ⟨B, o + a.off, Option.none⟩
def CR (φ : Pm) (a : Addr) (l c c' : Nat) : Prop :=
  match φ a.block with
  | .live _ o S g s => if g then l ≤ c' ∧ o + a.off + c' * s ≤ S else c' = c
  | _ => True
def MR (φ : Pm) (r r' : Nat) : Prop :=
  match φ r with
  | .none => False
  | .dead => True
  | .val _ => False
  | .live B _ _ _ _ => r' = B

theorem AR.ne {φ : Pm} {a a' : Addr} (h : AR φ a a') : φ a.block ≠ .none := fun e => by unfold AR at h; simp [e] at h
theorem MR.ne {φ : Pm} {r r' : Nat} (h : MR φ r r') : φ r ≠ .none := fun e => by unfold MR at h; simp [e] at h

def addrEq (a b : Addr) : Bool := Nat.beq a.block b.block && Nat.beq a.off b.off && (match a.spot, b.spot with | none, none => true | _, _ => false)
theorem addr_eq {a b : Addr} (h : addrEq a b = true) : a = b := by
  obtain ⟨x, y, z⟩ := a
  obtain ⟨x', y', z'⟩ := b
  simp only [addrEq, Bool.and_eq_true] at h
  obtain ⟨⟨h1, h2⟩, h3⟩ := h
  have h1 := Nat.eq_of_beq_eq_true h1
  have h2 := Nat.eq_of_beq_eq_true h2
  subst h1; subst h2
  cases z <;> cases z' <;> first | rfl | simp at h3
/-- A text that stands for any text but the words that it lists: 255, 255, 255, then each word with 255 behind it. -/
def isMark (s : ByteArray) : Bool := match s.data.toList with
  | a :: b :: c :: _ => Nat.beq a.toNat 255 && (Nat.beq b.toNat 255 && Nat.beq c.toNat 255)
  | _ => false
def wordsOf : List UInt8 → List UInt8 → List (List UInt8)
  | [], _ => []
  | x :: xs, acc => if Nat.beq x.toNat 255 then acc.reverse :: wordsOf xs [] else wordsOf xs (x :: acc)
def farWords (m : ByteArray) : List (List UInt8) := wordsOf (m.data.toList.drop 3) []
def natsEq : List UInt8 → List UInt8 → Bool
  | [], [] => true
  | x :: xs, y :: ys => Nat.beq x.toNat y.toNat && natsEq xs ys
  | _, _ => false
theorem nats_eq : ∀ {xs ys : List UInt8}, natsEq xs ys = true → xs = ys
  | [], [], _ => rfl
  | [], _ :: _, h => by simp [natsEq] at h
  | _ :: _, [], h => by simp [natsEq] at h
  | x :: xs, y :: ys, h => by
    simp only [natsEq, Bool.and_eq_true] at h
    rw [nats_eq h.2, UInt8.toNat_inj.1 (Nat.eq_of_beq_eq_true h.1)]
def inWords (c : List UInt8) : List (List UInt8) → Bool
  | [] => false
  | w :: ws => natsEq c w || inWords c ws
theorem inWords_mem {c : List UInt8} : ∀ {l : List (List UInt8)}, inWords c l = true → c ∈ l
  | [], h => by cases h
  | w :: ws, h => by
    simp only [inWords, Bool.or_eq_true] at h
    rcases h with h | h
    · rw [nats_eq h]; exact List.mem_cons_self ..
    · exact List.mem_cons_of_mem _ (inWords_mem h)
/-- A text that is none of the words. -/
def far (m s : ByteArray) : Prop := ∀ c ∈ farWords m, s.data.toList ≠ c

def leafB : Value → Bool
  | .string s => !isMark s
  | .bool _ | .int .. | .float .. | .complex .. | .pointer none | .map none | .chan none | .nilFunc | .nilIface | .slice none _ _ => true
  | _ => false

inductive VR (φ : Pm) : Value → Value → Prop
  | leaf {v : Value} (h : leafB v = true) : VR φ v v
  | top {r : Nat} {v : Value} (hr : φ r = .val v) (h : v.oneCell' = true) (hc : v.cells = #[v]) : VR φ (.chan (some r)) v
  | opq {m s : ByteArray} (h : isMark m = true) (hs : far m s) : VR φ (.string m) (.string s)
  | ptr {a a' : Addr} (h : AR φ a a') : VR φ (.pointer (some a)) (.pointer (some a'))
  | slice {a a' : Addr} {l c c' : Nat} (h : AR φ a a') (hc : CR φ a l c c') : VR φ (.slice (some a) l c) (.slice (some a') l c')
  | map {r r' : Nat} (h : MR φ r r') : VR φ (.map (some r)) (.map (some r'))
  | func {fn : Fn} {xs xs' ys ys' : Array Value} (hs : xs.size = xs'.size) (h : ∀ (i : Nat) (v v' : Value), xs[i]? = some v → xs'[i]? = some v' → VR φ v v')
      (hs2 : ys.size = ys'.size) (h2 : ∀ (i : Nat) (v v' : Value), ys[i]? = some v → ys'[i]? = some v' → VR φ v v') : VR φ (.func fn xs ys) (.func fn xs' ys')
  | iface {t : TypeId} {v v' : Value} (h : VR φ v v') : VR φ (.iface t v) (.iface t v')
  | agg {xs xs' : Array Value} (hs : xs.size = xs'.size) (h : ∀ (i : Nat) (v v' : Value), xs[i]? = some v → xs'[i]? = some v' → VR φ v v') : VR φ (.agg xs) (.agg xs')
  | tuple {xs xs' : Array Value} (hs : xs.size = xs'.size) (h : ∀ (i : Nat) (v v' : Value), xs[i]? = some v → xs'[i]? = some v' → VR φ v v') : VR φ (.tuple xs) (.tuple xs')

/-- What was told stays told: a new place may be told, a place may die. -/
def Le (φ φ' : Pm) : Prop := ∀ b, match φ b with
  | .none => True
  | .dead => φ' b = .dead
  | .val v => φ' b = .val v
  | .live B o S g s => φ' b = .live B o S g s ∨ φ' b = .dead
theorem Le.refl (φ : Pm) : Le φ φ := fun b => by cases φ b <;> simp
theorem Le.trans {φ φ' φ'' : Pm} (h : Le φ φ') (k : Le φ' φ'') : Le φ φ'' := fun b => by
  have h1 := h b
  have h2 := k b
  cases e : φ b with
  | none => trivial
  | dead => simp only [e] at h1; simp only [h1] at h2; exact h2
  | val v => simp only [e] at h1; simp only [h1] at h2; exact h2
  | live B o S g s =>
    simp only [e] at h1
    rcases h1 with h1 | h1
    · simp only [h1] at h2; exact h2
    · simp only [h1] at h2; exact .inr h2
theorem AR.mono {φ φ' : Pm} (h : Le φ φ') {a a' : Addr} (k : AR φ a a') : AR φ' a a' := by
  have h1 := h a.block
  unfold AR at *
  cases e : φ a.block with
  | none => simp [e] at k
  | val v => simp [e] at k
  | dead => simp only [e] at h1; simp [h1]
  | live B o S g s =>
    simp only [e] at h1 k
    rcases h1 with h1 | h1 <;> simp only [h1]
    exact k
theorem CR.mono {φ φ' : Pm} (h : Le φ φ') {a a' : Addr} {l c c' : Nat} (ha : AR φ a a') (k : CR φ a l c c') : CR φ' a l c c' := by
  have h1 := h a.block
  unfold CR AR at *
  cases e : φ a.block with
  | none => simp [e] at ha
  | val v => simp [e] at ha
  | dead => simp only [e] at h1; simp [h1]
  | live B o S g s =>
    simp only [e] at h1 k
    rcases h1 with h1 | h1 <;> simp only [h1]
    exact k
theorem MR.mono {φ φ' : Pm} (h : Le φ φ') {r r' : Nat} (k : MR φ r r') : MR φ' r r' := by
  have h1 := h r
  unfold MR at *
  cases e : φ r with
  | none => simp [e] at k
  | val v => simp [e] at k
  | dead => simp only [e] at h1; simp [h1]
  | live B o S g s =>
    simp only [e] at h1 k
    rcases h1 with h1 | h1 <;> simp only [h1]
    exact k
theorem VR.mono {φ φ' : Pm} (h : Le φ φ') {v v' : Value} (k : VR φ v v') : VR φ' v v' := by
  induction k with
  | leaf h => exact .leaf h
  | opq h hs => exact .opq h hs
  | @top r v hr h1 hc => exact .top (by have := h r; simp only [hr] at this; exact this) h1 hc
  | ptr h1 => exact .ptr (h1.mono h)
  | slice h1 h2 => exact .slice (h1.mono h) (CR.mono h h1 h2)
  | map h1 => exact .map (h1.mono h)
  | func hs _ hs2 _ ih ih2 => exact .func hs ih hs2 ih2
  | iface _ ih => exact .iface ih
  | agg hs _ ih => exact .agg hs ih
  | tuple hs _ ih => exact .tuple hs ih

/-- Lists of values, one by one. -/
def LR (φ : Pm) (xs xs' : List Value) : Prop := xs.length = xs'.length ∧ ∀ (i : Nat) (v v' : Value), xs[i]? = some v → xs'[i]? = some v' → VR φ v v'
theorem LR.mono {φ φ' : Pm} (h : Le φ φ') {xs xs' : List Value} (k : LR φ xs xs') : LR φ' xs xs' := ⟨k.1, fun i v v' a b => (k.2 i v v' a b).mono h⟩
theorem LR.nil {φ : Pm} : LR φ [] [] := ⟨rfl, fun i v v' h => by simp at h⟩
theorem LR.cons {φ : Pm} {x x' : Value} {xs xs' : List Value} (h : VR φ x x') (k : LR φ xs xs') : LR φ (x :: xs) (x' :: xs') :=
  ⟨by simp [k.1], fun i v v' a b => by cases i with
    | zero => simp at a b; subst a; subst b; exact h
    | succ i => exact k.2 i v v' (by simpa using a) (by simpa using b)⟩
theorem LR.cons_inv {φ : Pm} {x x' : Value} {xs xs' : List Value} (k : LR φ (x :: xs) (x' :: xs')) : VR φ x x' ∧ LR φ xs xs' :=
  ⟨k.2 0 x x' rfl rfl, by have := k.1; simpa using this, fun i v v' a b => k.2 (i + 1) v v' (by simpa using a) (by simpa using b)⟩
theorem LR.append {φ : Pm} : ∀ {xs xs' ys ys' : List Value}, LR φ xs xs' → LR φ ys ys' → LR φ (xs ++ ys) (xs' ++ ys')
  | [], [], _, _, _, k => k
  | [], _ :: _, _, _, h, _ => absurd h.1 (by simp)
  | _ :: _, [], _, _, h, _ => absurd h.1 (by simp)
  | _ :: _, _ :: _, _, _, h, k => by
    obtain ⟨h1, h2⟩ := h.cons_inv
    exact LR.cons h1 (h2.append k)
theorem LR.get {φ : Pm} {xs xs' : List Value} (k : LR φ xs xs') {i : Nat} {v : Value} (h : xs[i]? = some v) : ∃ v', xs'[i]? = some v' ∧ VR φ v v' := by
  have hi : i < xs.length := by
    rcases Nat.lt_or_ge i xs.length with h' | h'
    · exact h'
    · simp [List.getElem?_eq_none h'] at h
  have hi' : i < xs'.length := by rw [← k.1]; exact hi
  exact ⟨xs'[i], by simp [hi'], k.2 i _ _ h (by simp [hi'])⟩
theorem LR.take {φ : Pm} {xs xs' : List Value} (k : LR φ xs xs') (n : Nat) : LR φ (xs.take n) (xs'.take n) :=
  ⟨by simp [k.1], fun i v v' a b => by
    rw [List.getElem?_take] at a b
    by_cases h : i < n
    · simp only [h, if_true] at a b; exact k.2 i v v' a b
    · simp [h] at a⟩
theorem LR.drop {φ : Pm} {xs xs' : List Value} (k : LR φ xs xs') (n : Nat) : LR φ (xs.drop n) (xs'.drop n) :=
  ⟨by simp [k.1], fun i v v' a b => by
    rw [List.getElem?_drop] at a b; exact k.2 _ v v' a b⟩
theorem LR.set {φ : Pm} {xs xs' : List Value} (k : LR φ xs xs') (n : Nat) {v v' : Value} (h : VR φ v v') : LR φ (xs.set n v) (xs'.set n v') :=
  ⟨by simp [k.1], fun i u u' a b => by
    rw [List.getElem?_set] at a b
    by_cases e : n = i
    · subst e
      by_cases hn : n < xs.length
      · have hn' : n < xs'.length := by rw [← k.1]; exact hn
        simp only [hn, hn', if_true] at a b
        cases a; cases b; exact h
      · simp [hn] at a
    · simp only [e, if_false] at a b; exact k.2 i u u' a b⟩
theorem LR.replicate {φ : Pm} {v v' : Value} (h : VR φ v v') (n : Nat) : LR φ (List.replicate n v) (List.replicate n v') :=
  ⟨by simp, fun i u u' a b => by
    rw [List.getElem?_replicate] at a b
    by_cases hn : i < n
    · simp only [hn, if_true] at a b; cases a; cases b; exact h
    · simp [hn] at a⟩
theorem VR.agg_iff {φ : Pm} {xs xs' : List Value} : VR φ (.agg ⟨xs⟩) (.agg ⟨xs'⟩) ↔ LR φ xs xs' :=
  ⟨fun h => by cases h with
    | leaf h => simp [leafB] at h
    | agg hs h => exact ⟨by simpa using hs, fun i v v' a b => h i v v' (by simpa using a) (by simpa using b)⟩,
   fun h => .agg (by simpa using h.1) fun i v v' a b => h.2 i v v' (by simpa using a) (by simpa using b)⟩
theorem VR.tuple_iff {φ : Pm} {xs xs' : List Value} : VR φ (.tuple ⟨xs⟩) (.tuple ⟨xs'⟩) ↔ LR φ xs xs' :=
  ⟨fun h => by cases h with
    | leaf h => simp [leafB] at h
    | tuple hs h => exact ⟨by simpa using hs, fun i v v' a b => h i v v' (by simpa using a) (by simpa using b)⟩,
   fun h => .tuple (by simpa using h.1) fun i v v' a b => h.2 i v v' (by simpa using a) (by simpa using b)⟩

/-! ### plain values: no address in them -/
def plainB : Nat → Value → Bool
  | d + 1, .iface _ v => plainB d v
  | d + 1, .agg cs => cs.toList.all (plainB d)
  | d + 1, .tuple cs => cs.toList.all (plainB d)
  | d + 1, .func _ xs ys => xs.toList.all (plainB d) && ys.toList.all (plainB d)
  | _, v => leafB v
theorem arr_eq {xs xs' : Array Value} (hs : xs.size = xs'.size) (h : ∀ (i : Nat) (v v' : Value), xs[i]? = some v → xs'[i]? = some v' → v' = v) : xs' = xs := by
  apply Array.ext hs.symm
  intro i h1 h2
  exact h i _ _ (by simp [h2]) (by simp [h1])
theorem plain_eq {φ : Pm} : ∀ (d : Nat) (v v' : Value), plainB d v = true → VR φ v v' → v' = v := by
  intro d
  induction d with
  | zero =>
    intro v v' h k
    cases k with
    | leaf => rfl
    | opq hm => simp [plainB, leafB, hm] at h
    | _ => simp [plainB, leafB] at h
  | succ d ih =>
    intro v v' h k
    cases k with
    | leaf => rfl
    | opq hm => simp [plainB, leafB, hm] at h
    | top => simp [plainB, leafB] at h
    | ptr => simp [plainB, leafB] at h
    | slice => simp [plainB, leafB] at h
    | map => simp [plainB, leafB] at h
    | func hs h1 hs2 h2 =>
      simp only [plainB, Bool.and_eq_true, List.all_eq_true] at h
      rw [arr_eq hs fun i v v' a b => ih v v' (h.1 v (by exact Array.mem_toList_iff.2 (Array.mem_of_getElem? a))) (h1 i v v' a b),
        arr_eq hs2 fun i v v' a b => ih v v' (h.2 v (by exact Array.mem_toList_iff.2 (Array.mem_of_getElem? a))) (h2 i v v' a b)]
    | iface h1 => rw [ih _ _ (by simpa [plainB] using h) h1]
    | agg hs h1 =>
      simp only [plainB, List.all_eq_true] at h
      rw [arr_eq hs fun i v v' a b => ih v v' (h v (by exact Array.mem_toList_iff.2 (Array.mem_of_getElem? a))) (h1 i v v' a b)]
    | tuple hs h1 =>
      simp only [plainB, List.all_eq_true] at h
      rw [arr_eq hs fun i v v' a b => ih v v' (h v (by exact Array.mem_toList_iff.2 (Array.mem_of_getElem? a))) (h1 i v v' a b)]
theorem plain_list0 {φ : Pm} {d : Nat} : ∀ {xs xs' : List Value}, xs.all (plainB d) = true → LR φ xs xs' → xs' = xs
  | [], [], _, _ => rfl
  | [], _ :: _, _, h => absurd h.1 (by simp)
  | _ :: _, [], _, h => absurd h.1 (by simp)
  | x :: xs, x' :: xs', h, k => by
    simp only [List.all_cons, Bool.and_eq_true] at h
    obtain ⟨k1, k2⟩ := k.cons_inv
    rw [plain_eq d _ _ h.1 k1, plain_list0 h.2 k2]
theorem plain_refl {φ : Pm} : ∀ (d : Nat) (v : Value), plainB d v = true → VR φ v v := by
  intro d
  induction d with
  | zero => intro v h; exact .leaf (by simpa [plainB] using h)
  | succ d ih =>
    intro v h
    have arr : ∀ xs : Array Value, (∀ x ∈ xs.toList, plainB d x = true) → ∀ (i : Nat) (v v' : Value), xs[i]? = some v → xs[i]? = some v' → VR φ v v' := fun xs hx i v v' a b => by
      rw [a] at b; cases b; exact ih v (hx v (Array.mem_toList_iff.2 (Array.mem_of_getElem? a)))
    cases v with
    | iface t u => exact .iface (ih u (by simpa [plainB] using h))
    | agg cs => simp only [plainB, List.all_eq_true] at h; exact .agg rfl (arr _ h)
    | tuple cs => simp only [plainB, List.all_eq_true] at h; exact .tuple rfl (arr _ h)
    | func fn xs ys => simp only [plainB, Bool.and_eq_true, List.all_eq_true] at h; exact .func rfl (arr _ h.1) rfl (arr _ h.2)
    | _ => exact .leaf (by simpa [plainB] using h)

/-! ### the blocks -/
inductive Ob where
  | cells (cs : List Value) (elem : TypeId) (g : Bool) (s : Nat)
  | map (es : List MapEntry) (clock : Nat)
  | iter (s : ByteArray) (pos : Nat)
  | bytes (cs : List Value) (elem : TypeId)
structure St where
  heap : Tr Ob
  next : Nat

def ER (φ : Pm) (e e' : MapEntry) : Prop := VR φ e.key e'.key ∧ VR φ e.val e'.val ∧ e'.born = e.born
/-- A block of one's own, and the world's object where it lies. -/
def OR (φ : Pm) (x : Ob) (y : Option Obj) (o S : Nat) (g : Bool) (s : Nat) : Prop :=
  match x with
  | .cells cs elem g0 s0 => g = g0 ∧ s = s0 ∧ ∃ arr : Array Value, y = some (.cells arr elem (0, 0)) ∧ arr.size = S ∧ o + cs.length ≤ S ∧ (g = false → o = 0 ∧ cs.length = S) ∧ LR φ cs ((arr.toList.drop o).take cs.length)
  | .map es clock => ∃ es' : Array MapEntry, y = some (.map es' clock) ∧ es.length = es'.size ∧ ∀ (i : Nat) (e e' : MapEntry), es[i]? = some e → es'[i]? = some e' → ER φ e e'
  | .iter t pos => o = 0 ∧ y = some (.stringIter t pos)
  | .bytes cs elem => ∃ arr fz, y = some (.cells arr elem fz) ∧ arr.size = S ∧ o + cs.length ≤ S ∧ LR φ cs ((arr.toList.drop o).take cs.length)
theorem OR.mono {φ φ' : Pm} (h : Le φ φ') {x : Ob} {y : Option Obj} {o S : Nat} {g : Bool} {s : Nat} (k : OR φ x y o S g s) : OR φ' x y o S g s := by
  cases x with
  | cells cs elem g0 s0 =>
    obtain ⟨h1, h2, arr, h3, h4, h5, h6, h7⟩ := k
    exact ⟨h1, h2, arr, h3, h4, h5, h6, h7.mono h⟩
  | map es clock =>
    obtain ⟨es', h1, h2, h3⟩ := k
    exact ⟨es', h1, h2, fun i e e' a b => by
      obtain ⟨k1, k2, k3⟩ := h3 i e e' a b
      exact ⟨k1.mono h, k2.mono h, k3⟩⟩
  | iter t pos => exact k
  | bytes cs elem =>
    obtain ⟨arr, fz, h3, h4, h5, h7⟩ := k
    exact ⟨arr, fz, h3, h4, h5, h7.mono h⟩

/-- Where the call began; and what the numbers stand for that name values. -/
structure W0 where
  w : World
  env : Nat → Value
  m : Nat
  one : ∀ r, r < m → (env r).oneCell' = true ∧ (env r).cells = #[env r]
/-- The first numbers name their values, and no other one names one. -/
def Sy (w0 : W0) (φ : Pm) : Prop := (∀ r, r < w0.m → φ r = .val (w0.env r)) ∧ ∀ r v, φ r = .val v → v = w0.env r
/-- The blocks of one's own and the world, from a call's begin on. -/
structure HR (w0 : W0) (φ : Pm) (st : St) (w : World) : Prop where
  below : Below w0.w.heap.size w0.w w
  fresh : ∀ b, st.next ≤ b → φ b = .none
  absent : ∀ b, st.next ≤ b → st.heap.get b = none
  obj : ∀ b ob, st.heap.get b = some ob → φ b ≠ .none → ∃ B o S g s, φ b = .live B o S g s ∧ w0.w.heap.size ≤ B ∧ OR φ ob w.heap[B]? o S g s
  inj : ∀ b1 b2 B o1 S1 g1 s1 o2 S2 g2 s2, φ b1 = .live B o1 S1 g1 s1 → φ b2 = .live B o2 S2 g2 s2 → b1 = b2
  used : ∀ b B o S g s, φ b = .live B o S g s → B < w.heap.size
  sym : Sy w0 φ

/-- The same heap. -/
structure Same (w w' : World) : Prop where
  heap : w'.heap = w.heap
  os : w'.os = w.os
  tape : w'.tape = w.tape
  output : w'.output = w.output
theorem Same.refl (w : World) : Same w w := ⟨rfl, rfl, rfl, rfl⟩
theorem Same.trans {a b c : World} (h : Same a b) (k : Same b c) : Same a c := ⟨k.heap.trans h.heap, k.os.trans h.os, k.tape.trans h.tape, k.output.trans h.output⟩
theorem Same.drew (w : World) : Same w w.drew := ⟨rfl, rfl, rfl, rfl⟩
theorem Same.below {w w' : World} (h : Same w w') (B : Nat) : Below B w w' := ⟨h.os, h.tape, h.output, by rw [h.heap]; exact Nat.le_refl _, fun k _ => by rw [h.heap]⟩
theorem HR.same {w0 : W0} {w w' : World} {φ : Pm} {st : St} (h : HR w0 φ st w) (k : Same w w') : HR w0 φ st w' :=
  ⟨h.below.trans (k.below _), h.fresh, h.absent, fun b ob hb hn => by rw [k.heap]; exact h.obj b ob hb hn, h.inj, fun b B o S g s hb => by rw [k.heap]; exact h.used b B o S g s hb, h.sym⟩

/-- A place told. -/
def Pm.tell (φ : Pm) (b : Nat) (p : Pl) : Pm := fun c => if c = b then p else φ c
theorem Pm.tell_same (φ : Pm) (b : Nat) (p : Pl) : φ.tell b p b = p := by simp [Pm.tell]
theorem Pm.tell_other (φ : Pm) (b c : Nat) (p : Pl) (h : c ≠ b) : φ.tell b p c = φ c := by simp [Pm.tell, h]
theorem Le.tell {φ : Pm} {b : Nat} {p : Pl} (h : φ b = .none) : Le φ (φ.tell b p) := fun c => by
  by_cases e : c = b
  · subst e; simp [h]
  · rw [Pm.tell_other _ _ _ _ e]
    cases φ c <;> simp

/-- A new block, whose number may be taken already. -/
theorem HR.new {w0 : W0} {w w' : World} {φ : Pm} {st : St} (h : HR w0 φ st w) {b : Nat} (hb : φ b = .none) {n : Nat} (hn : st.next ≤ n) (hbn : b < n) {ob : Ob} {ob' : Obj} {S : Nat} {g : Bool} {s : Nat}
    (hw : w'.heap = w.heap.push ob') (h1 : w'.os = w.os) (h2 : w'.tape = w.tape) (h3 : w'.output = w.output)
    (ho : OR (φ.tell b (.live w.heap.size 0 S g s)) ob (some ob') 0 S g s) :
    HR w0 (φ.tell b (.live w.heap.size 0 S g s)) ⟨st.heap.put b (some ob), n⟩ w' := by
  have hle : Le φ (φ.tell b (.live w.heap.size 0 S g s)) := Le.tell hb
  have hsz := h.below.size
  have hold : ∀ B, B < w.heap.size → w'.heap[B]? = w.heap[B]? := fun B hB => by rw [hw, Array.getElem?_push, if_neg (by omega)]
  refine ⟨h.below.trans ⟨h1, h2, h3, by rw [hw]; simp, fun k hk => hold k (by omega)⟩, ?_, ?_, ?_, ?_, ?_, ?_⟩
  · intro c hc
    rw [Pm.tell_other _ _ _ _ (by simp at hc; omega)]
    exact h.fresh c (by simp at hc; omega)
  · intro c hc
    simp only at hc ⊢
    rw [Tr.get_put_eq, if_neg (by omega)]
    exact h.absent c (by omega)
  · intro c x hc hcn
    simp only [Tr.get_put_eq] at hc
    by_cases e : c = b
    · subst e
      simp only [if_true] at hc
      cases hc
      exact ⟨w.heap.size, 0, S, g, s, Pm.tell_same _ _ _, hsz, by rw [hw]; simpa using ho⟩
    · simp only [e, if_false] at hc
      rw [Pm.tell_other _ _ _ _ e] at hcn
      obtain ⟨B, o, S', g', s', k1, k2, k3⟩ := h.obj c x hc hcn
      have := h.used c B o S' g' s' k1
      exact ⟨B, o, S', g', s', by rw [Pm.tell_other _ _ _ _ e]; exact k1, k2, by rw [hold B this]; exact k3.mono hle⟩
  · intro b1 b2 B o1 S1 g1 s1 o2 S2 g2 s2 k1 k2
    by_cases e1 : b1 = b
    · by_cases e2 : b2 = b
      · rw [e1, e2]
      · subst e1
        rw [Pm.tell_same] at k1
        rw [Pm.tell_other _ _ _ _ e2] at k2
        cases k1
        exact absurd (h.used _ _ _ _ _ _ k2) (by omega)
    · rw [Pm.tell_other _ _ _ _ e1] at k1
      by_cases e2 : b2 = b
      · subst e2
        rw [Pm.tell_same] at k2
        cases k2
        exact absurd (h.used _ _ _ _ _ _ k1) (by omega)
      · rw [Pm.tell_other _ _ _ _ e2] at k2
        exact h.inj _ _ _ _ _ _ _ _ _ _ _ k1 k2
  · intro c B o S' g' s' k
    rw [hw]
    simp only [Array.size_push]
    by_cases e : c = b
    · subst e; rw [Pm.tell_same] at k; cases k; omega
    · rw [Pm.tell_other _ _ _ _ e] at k
      have := h.used _ _ _ _ _ _ k
      omega
  · refine ⟨fun r hr => ?_, fun r v k => ?_⟩
    · have hv := h.sym.1 r hr
      rw [Pm.tell_other _ _ _ _ (fun e => by subst e; rw [hv] at hb; cases hb)]; exact hv
    · by_cases e : r = b
      · subst e; rw [Pm.tell_same] at k; cases k
      · rw [Pm.tell_other _ _ _ _ e] at k; exact h.sym.2 r v k

/-- A block told of that lies nowhere yet. -/
theorem HR.virt {w0 : W0} {w : World} {φ : Pm} {st : St} (h : HR w0 φ st w) (ob : Ob) : HR w0 φ ⟨st.heap.put st.next (some ob), st.next + 1⟩ w := by
  refine ⟨h.below, fun c hc => h.fresh c (by simp at hc; omega), ?_, ?_, h.inj, h.used, h.sym⟩
  · intro c hc
    simp only at hc ⊢
    rw [Tr.get_put_eq, if_neg (by omega)]
    exact h.absent c (by omega)
  · intro c x hc hcn
    simp only [Tr.get_put_eq] at hc
    by_cases e : c = st.next
    · subst e; exact absurd (h.fresh _ (Nat.le_refl _)) hcn
    · simp only [e, if_false] at hc
      exact h.obj c x hc hcn
/-- It is made. -/
theorem HR.real {w0 : W0} {w w' : World} {φ : Pm} {st : St} (h : HR w0 φ st w) {b : Nat} (hb : φ b = .none) {ob : Ob} (hob : st.heap.get b = some ob) {ob' : Obj} {S : Nat} {g : Bool} {s : Nat}
    (hw : w'.heap = w.heap.push ob') (h1 : w'.os = w.os) (h2 : w'.tape = w.tape) (h3 : w'.output = w.output)
    (ho : OR (φ.tell b (.live w.heap.size 0 S g s)) ob (some ob') 0 S g s) :
    HR w0 (φ.tell b (.live w.heap.size 0 S g s)) st w' := by
  have hbn : b < st.next := by
    rcases Nat.lt_or_ge b st.next with h' | h'
    · exact h'
    · rw [h.absent b h'] at hob; cases hob
  have := h.new hb (Nat.le_refl _) hbn (ob := ob) hw h1 h2 h3 ho
  refine ⟨this.below, this.fresh, h.absent, fun c x hc hcn => this.obj c x ?_ hcn, this.inj, this.used, this.sym⟩
  simp only [Tr.get_put_eq]
  split
  · rename_i e; subst e; rw [← hob, hc]
  · exact hc

/-- A block turned where it lies. -/
theorem HR.turn {w0 : W0} {w w' : World} {φ : Pm} {st : St} (h : HR w0 φ st w) {b : Nat} {x : Ob} (hb : st.heap.get b = some x) {B o S : Nat} {g : Bool} {s : Nat} (hp : φ b = .live B o S g s)
    {ob : Ob} {ob' : Obj} (hw : w'.heap[B]? = some ob') (hz : w'.heap.size = w.heap.size) (ho : ∀ k, k ≠ B → w'.heap[k]? = w.heap[k]?) (h1 : w'.os = w.os) (h2 : w'.tape = w.tape) (h3 : w'.output = w.output)
    (hr : OR φ ob (some ob') o S g s) : HR w0 φ ⟨st.heap.put b (some ob), st.next⟩ w' := by
  obtain ⟨B', o', S', g', s', k1, k2, _⟩ := h.obj b x hb (by rw [hp]; simp)
  have eB : B' = B := by rw [hp] at k1; cases k1; rfl
  rw [eB] at k2
  have hbn : b < st.next := by
    rcases Nat.lt_or_ge b st.next with h' | h'
    · exact h'
    · rw [h.absent b h'] at hb; cases hb
  refine ⟨h.below.trans ⟨h1, h2, h3, by omega, fun k hk => ho k (by omega)⟩, h.fresh, ?_, ?_, h.inj, fun c B o S g s hc => by rw [hz]; exact h.used c B o S g s hc, h.sym⟩
  · intro c hc
    simp only at hc ⊢
    rw [Tr.get_put_eq, if_neg (by omega)]
    exact h.absent c hc
  · intro c y hc hcn
    simp only [Tr.get_put_eq] at hc
    by_cases e : c = b
    · subst e
      simp only [if_true] at hc
      cases hc
      exact ⟨B, o, S, g, s, hp, k2, by rw [hw]; exact hr⟩
    · simp only [e, if_false] at hc
      obtain ⟨B', o', S', g', s', k1, k2, k3⟩ := h.obj c y hc hcn
      have hne : B' ≠ B := fun e' => by subst e'; exact e (h.inj _ _ _ _ _ _ _ _ _ _ _ k1 hp)
      exact ⟨B', o', S', g', s', k1, k2, by rw [ho B' hne]; exact k3⟩

/-- A block that is looked at no longer, and another one in its place: what append does where there is room. -/
theorem HR.move {w0 : W0} {w w' : World} {φ : Pm} {st : St} (h : HR w0 φ st w) {b c : Nat} {x : Ob} (hb : st.heap.get b = some x) {B o S : Nat} {g : Bool} {s : Nat} (hp : φ b = .live B o S g s)
    (hc : φ c = .none) {n : Nat} (hn : st.next ≤ n) (hcn : c < n) {o2 : Nat} {g2 : Bool} {s2 : Nat}
    {ob : Ob} {ob' : Obj} (hw : w'.heap[B]? = some ob') (hz : w'.heap.size = w.heap.size) (ho : ∀ k, k ≠ B → w'.heap[k]? = w.heap[k]?) (h1 : w'.os = w.os) (h2 : w'.tape = w.tape) (h3 : w'.output = w.output)
    (hr : OR ((φ.tell b .dead).tell c (.live B o2 S g2 s2)) ob (some ob') o2 S g2 s2) :
    HR w0 ((φ.tell b .dead).tell c (.live B o2 S g2 s2)) ⟨(st.heap.put b none).put c (some ob), n⟩ w' ∧ Le φ ((φ.tell b .dead).tell c (.live B o2 S g2 s2)) := by
  have hbc : c ≠ b := fun e => by subst e; rw [hc] at hp; cases hp
  have hle : Le φ ((φ.tell b .dead).tell c (.live B o2 S g2 s2)) := fun d => by
    by_cases e : d = c
    · subst e; simp [hc]
    · rw [Pm.tell_other _ _ _ _ e]
      by_cases e2 : d = b
      · subst e2; rw [Pm.tell_same]; simp [hp]
      · rw [Pm.tell_other _ _ _ _ e2]; cases φ d <;> simp
  obtain ⟨B', o', S', g', s', k1, k2, _⟩ := h.obj b x hb (by rw [hp]; simp)
  have eB : B' = B := by rw [hp] at k1; cases k1; rfl
  rw [eB] at k2
  have hbn : b < st.next := by
    rcases Nat.lt_or_ge b st.next with h' | h'
    · exact h'
    · rw [h.absent b h'] at hb; cases hb
  refine ⟨⟨h.below.trans ⟨h1, h2, h3, by omega, fun k hk => ho k (by omega)⟩, ?_, ?_, ?_, ?_, ?_, ?_⟩, hle⟩
  · intro d hd
    simp only at hd
    rw [Pm.tell_other _ _ _ _ (by omega), Pm.tell_other _ _ _ _ (by omega)]
    exact h.fresh d (by omega)
  · intro d hd
    simp only at hd ⊢
    rw [Tr.get_put_eq, if_neg (by omega), Tr.get_put_eq, if_neg (by omega)]
    exact h.absent d (by omega)
  · intro d y hd hdn
    simp only [Tr.get_put_eq] at hd
    by_cases e : d = c
    · subst e
      simp only [if_true] at hd
      cases hd
      exact ⟨B, o2, S, g2, s2, Pm.tell_same _ _ _, k2, by rw [hw]; exact hr⟩
    · simp only [e, if_false] at hd
      rw [Pm.tell_other _ _ _ _ e] at hdn
      by_cases e2 : d = b
      · subst e2; simp at hd
      · simp only [e2, if_false] at hd
        rw [Pm.tell_other _ _ _ _ e2] at hdn
        obtain ⟨B', o', S', g', s', k1, k2, k3⟩ := h.obj d y hd hdn
        have hne : B' ≠ B := fun e' => by subst e'; exact e2 (h.inj _ _ _ _ _ _ _ _ _ _ _ k1 hp)
        exact ⟨B', o', S', g', s', by rw [Pm.tell_other _ _ _ _ e, Pm.tell_other _ _ _ _ e2]; exact k1, k2, by rw [ho B' hne]; exact k3.mono hle⟩
  · intro b1 b2 B1 o1 S1 g1 s1 o3 S3 g3 s3 k1 k2
    have key : ∀ d B1 o1 S1 g1 s1, ((φ.tell b .dead).tell c (.live B o2 S g2 s2)) d = .live B1 o1 S1 g1 s1 → (d = c ∧ B1 = B) ∨ (d ≠ c ∧ d ≠ b ∧ φ d = .live B1 o1 S1 g1 s1) := by
      intro d B1 o1 S1 g1 s1 hd
      by_cases e : d = c
      · subst e; rw [Pm.tell_same] at hd; cases hd; exact .inl ⟨rfl, rfl⟩
      · rw [Pm.tell_other _ _ _ _ e] at hd
        by_cases e2 : d = b
        · subst e2; rw [Pm.tell_same] at hd; cases hd
        · rw [Pm.tell_other _ _ _ _ e2] at hd; exact .inr ⟨e, e2, hd⟩
    rcases key _ _ _ _ _ _ k1 with ⟨e1, e1'⟩ | ⟨e1, e1', e1''⟩ <;> rcases key _ _ _ _ _ _ k2 with ⟨e2, e2'⟩ | ⟨e2, e2', e2''⟩
    · rw [e1, e2]
    · subst e1'; exact absurd (h.inj _ _ _ _ _ _ _ _ _ _ _ e2'' hp) e2'
    · subst e2'; exact absurd (h.inj _ _ _ _ _ _ _ _ _ _ _ e1'' hp) e1'
    · exact h.inj _ _ _ _ _ _ _ _ _ _ _ e1'' e2''
  · intro d B1 o1 S1 g1 s1 hd
    rw [hz]
    by_cases e : d = c
    · subst e; rw [Pm.tell_same] at hd; cases hd; exact h.used _ _ _ _ _ _ hp
    · rw [Pm.tell_other _ _ _ _ e] at hd
      by_cases e2 : d = b
      · subst e2; rw [Pm.tell_same] at hd; cases hd
      · rw [Pm.tell_other _ _ _ _ e2] at hd; exact h.used _ _ _ _ _ _ hd
  · refine ⟨fun r hr => ?_, fun r v k => ?_⟩
    · have hv := h.sym.1 r hr
      rw [Pm.tell_other _ _ _ _ (fun e => by subst e; rw [hv] at hc; cases hc), Pm.tell_other _ _ _ _ (fun e => by subst e; rw [hv] at hp; cases hp)]; exact hv
    · by_cases e : r = c
      · subst e; rw [Pm.tell_same] at k; cases k
      · rw [Pm.tell_other _ _ _ _ e] at k
        by_cases e2 : r = b
        · subst e2; rw [Pm.tell_same] at k; cases k
        · rw [Pm.tell_other _ _ _ _ e2] at k; exact h.sym.2 r v k
end Go.Ev
