/-
  A run of closed code, told by a plain function: the blocks that the code makes under numbers of its own, and where they lie in a world.
-/
/-
  One operation of closed code: what it gives, told by a plain function; and that the model's operation gives the same.
-/
/-
  What single operations give: told plainly, and the same by the model.
-/
import Derived.Below
import Derived.Orders
import Derived.Laws.Entries
import Derived.Laws.EntriesVeiled
import Derived.Laws.AppendOwn
import Derived.Laws.MakeOwn
import Derived.Laws.Slices
import Derived.Laws.Strings
import Derived.Laws.Strings2
import Derived.Laws.Tables
import Derived.Laws.Pointers
import Derived.Laws.Cover3
import Derived.Laws.StructEq
namespace Go.Ev
open Go Go.RowKit

/-! ### a table by a number's bits -/
inductive Tr (α : Type) where
  | leaf
  | node (l : Tr α) (v : Option α) (r : Tr α)

def Tr.getF {α : Type} : Nat → Tr α → Nat → Option α
  | 0, _, _ => none
  | _ + 1, .leaf, _ => none
  | f + 1, .node l v r, n => if n = 0 then v else if n % 2 = 1 then Tr.getF f l (n / 2) else Tr.getF f r (n / 2 - 1)

def Tr.putF {α : Type} : Nat → Tr α → Nat → Option α → Tr α
  | 0, t, _, _ => t
  | f + 1, .leaf, n, x => if n = 0 then .node .leaf x .leaf else if n % 2 = 1 then .node (Tr.putF f .leaf (n / 2) x) none .leaf else .node .leaf none (Tr.putF f .leaf (n / 2 - 1) x)
  | f + 1, .node l v r, n, x => if n = 0 then .node l x r else if n % 2 = 1 then .node (Tr.putF f l (n / 2) x) v r else .node l v (Tr.putF f r (n / 2 - 1) x)

def Tr.get {α : Type} (t : Tr α) (n : Nat) : Option α := Tr.getF (n + 1) t n
def Tr.put {α : Type} (t : Tr α) (n : Nat) (x : Option α) : Tr α := Tr.putF (n + 1) t n x

theorem Tr.getF_leaf {α : Type} : ∀ f n, Tr.getF f (.leaf : Tr α) n = none
  | 0, _ => rfl
  | _ + 1, _ => rfl

theorem Tr.get_put {α : Type} : ∀ (f g : Nat) (t : Tr α) (n m : Nat) (x : Option α), n < f → m < g →
    Tr.getF g (Tr.putF f t n x) m = if m = n then x else Tr.getF g t m := by
  intro f
  induction f with
  | zero => intro g t n m x h; omega
  | succ f ih =>
    intro g t n m x hn hm
    cases g with
    | zero => omega
    | succ g =>
      have half : ∀ k, k ≠ 0 → k / 2 < k := fun k hk => by omega
      cases t with
      | leaf =>
        simp only [Tr.putF]
        by_cases h0 : n = 0
        · subst h0
          simp only [if_true, Tr.getF]
          by_cases m0 : m = 0
          · simp [m0]
          · simp [m0, Tr.getF_leaf]
        · simp only [h0, if_false]
          by_cases h1 : n % 2 = 1
          · simp only [h1, if_true, Tr.getF]
            by_cases m0 : m = 0
            · have : ¬ m = n := by omega
              simp [m0]; intro; omega
            · by_cases m1 : m % 2 = 1
              · simp only [m0, if_false, m1, if_true]
                rw [ih g .leaf (n / 2) (m / 2) x (by omega) (by omega), Tr.getF_leaf]
                by_cases e : m = n
                · simp [e]
                · have : ¬ m / 2 = n / 2 := by omega
                  simp [e, this]
              · have e : ¬ m = n := fun e => m1 (e ▸ h1)
                simp [m0, m1, e, Tr.getF_leaf]
          · simp only [h1, if_false, Tr.getF]
            by_cases m0 : m = 0
            · have : ¬ m = n := by omega
              simp [m0]; intro; omega
            · by_cases m1 : m % 2 = 1
              · have e : ¬ m = n := fun e => h1 (e ▸ m1)
                simp [m0, m1, e, Tr.getF_leaf]
              · simp only [m0, if_false, m1]
                rw [ih g .leaf (n / 2 - 1) (m / 2 - 1) x (by omega) (by omega), Tr.getF_leaf]
                by_cases e : m = n
                · simp [e]
                · have : ¬ m / 2 - 1 = n / 2 - 1 := by omega
                  simp [e, this]
      | node l v r =>
        simp only [Tr.putF]
        by_cases h0 : n = 0
        · subst h0
          simp only [if_true, Tr.getF]
          by_cases m0 : m = 0 <;> simp [m0]
        · simp only [h0, if_false]
          by_cases h1 : n % 2 = 1
          · simp only [h1, if_true, Tr.getF]
            by_cases m0 : m = 0
            · have : ¬ m = n := by omega
              simp [m0]; intro; omega
            · by_cases m1 : m % 2 = 1
              · simp only [m0, if_false, m1, if_true]
                rw [ih g l (n / 2) (m / 2) x (by omega) (by omega)]
                by_cases e : m = n
                · simp [e]
                · have : ¬ m / 2 = n / 2 := by omega
                  simp [e, this]
              · have e : ¬ m = n := fun e => m1 (e ▸ h1)
                simp [m0, m1, e]
          · simp only [h1, if_false, Tr.getF]
            by_cases m0 : m = 0
            · have : ¬ m = n := by omega
              simp [m0]; intro; omega
            · by_cases m1 : m % 2 = 1
              · have e : ¬ m = n := fun e => h1 (e ▸ m1)
                simp [m0, m1, e]
              · simp only [m0, if_false, m1]
                rw [ih g r (n / 2 - 1) (m / 2 - 1) x (by omega) (by omega)]
                by_cases e : m = n
                · simp [e]
                · have : ¬ m / 2 - 1 = n / 2 - 1 := by omega
                  simp [e, this]

theorem Tr.get_put_eq {α : Type} (t : Tr α) (n m : Nat) (x : Option α) : (t.put n x).get m = if m = n then x else t.get m :=
  Tr.get_put (n + 1) (m + 1) t n m x (by omega) (by omega)
theorem Tr.get_leaf {α : Type} (n : Nat) : (Tr.leaf : Tr α).get n = none := Tr.getF_leaf _ _

/-! ### values under numbers of one's own, and where they lie -/
/-- Where a block lies: nowhere yet · no longer looked at · val: no block, but a value of one cell that the number stands for · in block B, from cell o on, of S cells; g: it was grown by append, as long as the tape told; s: the cells of an element. -/
inductive Pl where
  | none
  | dead
  | live (B o S : Nat) (g : Bool) (s : Nat)
  | val (v : Value)
abbrev Pm := Nat → Pl

def AR (φ : Pm) (a a' : Addr) : Prop :=
  match φ a.block with
  | .none => False
  | .dead => True
  | .val _ => False
  | .live B o _ _ _ => a.spot = Option.none ∧ a' = ⟨B, o + a.off, Option.none⟩
def CR (φ : Pm) (a : Addr) (l c c' : Nat) : Prop :=
  match φ a.block with
  | .live _ o S g s => if g then l ≤ c' ∧ o + a.off + c' * s ≤ S else c' = c
  | _ => True
def MR (φ : Pm) (r r' : Nat) : Prop :=
  match φ r with
  | .none => False
  | .dead => True
  | .val _ => False
  | .live B _ _ _ _ => r' = B

theorem AR.ne {φ : Pm} {a a' : Addr} (h : AR φ a a') : φ a.block ≠ .none := fun e => by unfold AR at h; simp [e] at h
theorem MR.ne {φ : Pm} {r r' : Nat} (h : MR φ r r') : φ r ≠ .none := fun e => by unfold MR at h; simp [e] at h

def addrEq (a b : Addr) : Bool := Nat.beq a.block b.block && Nat.beq a.off b.off && (match a.spot, b.spot with | none, none => true | _, _ => false)
theorem addr_eq {a b : Addr} (h : addrEq a b = true) : a = b := by
  obtain ⟨x, y, z⟩ := a
  obtain ⟨x', y', z'⟩ := b
  simp only [addrEq, Bool.and_eq_true] at h
  obtain ⟨⟨h1, h2⟩, h3⟩ := h
  have h1 := Nat.eq_of_beq_eq_true h1
  have h2 := Nat.eq_of_beq_eq_true h2
  subst h1; subst h2
  cases z <;> cases z' <;> first | rfl | simp at h3
/-- A text that stands for any text but the words that it lists: 255, 255, 255, then each word with 255 behind it. -/
def isMark (s : ByteArray) : Bool := match s.data.toList with
  | a :: b :: c :: _ => Nat.beq a.toNat 255 && (Nat.beq b.toNat 255 && Nat.beq c.toNat 255)
  | _ => false
def wordsOf : List UInt8 → List UInt8 → List (List UInt8)
  | [], _ => []
  | x :: xs, acc => if Nat.beq x.toNat 255 then acc.reverse :: wordsOf xs [] else wordsOf xs (x :: acc)
def farWords (m : ByteArray) : List (List UInt8) := wordsOf (m.data.toList.drop 3) []
def natsEq : List UInt8 → List UInt8 → Bool
  | [], [] => true
  | x :: xs, y :: ys => Nat.beq x.toNat y.toNat && natsEq xs ys
  | _, _ => false
theorem nats_eq : ∀ {xs ys : List UInt8}, natsEq xs ys = true → xs = ys
  | [], [], _ => rfl
  | [], _ :: _, h => by simp [natsEq] at h
  | _ :: _, [], h => by simp [natsEq] at h
  | x :: xs, y :: ys, h => by
    simp only [natsEq, Bool.and_eq_true] at h
    rw [nats_eq h.2, UInt8.toNat_inj.1 (Nat.eq_of_beq_eq_true h.1)]
def inWords (c : List UInt8) : List (List UInt8) → Bool
  | [] => false
  | w :: ws => natsEq c w || inWords c ws
theorem inWords_mem {c : List UInt8} : ∀ {l : List (List UInt8)}, inWords c l = true → c ∈ l
  | [], h => by cases h
  | w :: ws, h => by
    simp only [inWords, Bool.or_eq_true] at h
    rcases h with h | h
    · rw [nats_eq h]; exact List.mem_cons_self ..
    · exact List.mem_cons_of_mem _ (inWords_mem h)
/-- A text that is none of the words. -/
def far (m s : ByteArray) : Prop := ∀ c ∈ farWords m, s.data.toList ≠ c

def leafB : Value → Bool
  | .string s => !isMark s
  | .bool _ | .int .. | .float .. | .complex .. | .pointer none | .map none | .chan none | .nilFunc | .nilIface | .slice none _ _ => true
  | _ => false

inductive VR (φ : Pm) : Value → Value → Prop
  | leaf {v : Value} (h : leafB v = true) : VR φ v v
  | top {r : Nat} {v : Value} (hr : φ r = .val v) (h : v.oneCell' = true) (hc : v.cells = #[v]) : VR φ (.chan (some r)) v
  | opq {m s : ByteArray} (h : isMark m = true) (hs : far m s) : VR φ (.string m) (.string s)
  | ptr {a a' : Addr} (h : AR φ a a') : VR φ (.pointer (some a)) (.pointer (some a'))
  | slice {a a' : Addr} {l c c' : Nat} (h : AR φ a a') (hc : CR φ a l c c') : VR φ (.slice (some a) l c) (.slice (some a') l c')
  | map {r r' : Nat} (h : MR φ r r') : VR φ (.map (some r)) (.map (some r'))
  | func {fn : Fn} {xs xs' ys ys' : Array Value} (hs : xs.size = xs'.size) (h : ∀ (i : Nat) (v v' : Value), xs[i]? = some v → xs'[i]? = some v' → VR φ v v')
      (hs2 : ys.size = ys'.size) (h2 : ∀ (i : Nat) (v v' : Value), ys[i]? = some v → ys'[i]? = some v' → VR φ v v') : VR φ (.func fn xs ys) (.func fn xs' ys')
  | iface {t : TypeId} {v v' : Value} (h : VR φ v v') : VR φ (.iface t v) (.iface t v')
  | agg {xs xs' : Array Value} (hs : xs.size = xs'.size) (h : ∀ (i : Nat) (v v' : Value), xs[i]? = some v → xs'[i]? = some v' → VR φ v v') : VR φ (.agg xs) (.agg xs')
  | tuple {xs xs' : Array Value} (hs : xs.size = xs'.size) (h : ∀ (i : Nat) (v v' : Value), xs[i]? = some v → xs'[i]? = some v' → VR φ v v') : VR φ (.tuple xs) (.tuple xs')

/-- What was told stays told: a new place may be told, a place may die. -/
def Le (φ φ' : Pm) : Prop := ∀ b, match φ b with
  | .none => True
  | .dead => φ' b = .dead
  | .val v => φ' b = .val v
  | .live B o S g s => φ' b = .live B o S g s ∨ φ' b = .dead
theorem Le.refl (φ : Pm) : Le φ φ := fun b => by cases φ b <;> simp
theorem Le.trans {φ φ' φ'' : Pm} (h : Le φ φ') (k : Le φ' φ'') : Le φ φ'' := fun b => by
  have h1 := h b
  have h2 := k b
  cases e : φ b with
  | none => trivial
  | dead => simp only [e] at h1; simp only [h1] at h2; exact h2
  | val v => simp only [e] at h1; simp only [h1] at h2; exact h2
  | live B o S g s =>
    simp only [e] at h1
    rcases h1 with h1 | h1
    · simp only [h1] at h2; exact h2
    · simp only [h1] at h2; exact .inr h2
theorem AR.mono {φ φ' : Pm} (h : Le φ φ') {a a' : Addr} (k : AR φ a a') : AR φ' a a' := by
  have h1 := h a.block
  unfold AR at *
  cases e : φ a.block with
  | none => simp [e] at k
  | val v => simp [e] at k
  | dead => simp only [e] at h1; simp [h1]
  | live B o S g s =>
    simp only [e] at h1 k
    rcases h1 with h1 | h1 <;> simp only [h1]
    exact k
theorem CR.mono {φ φ' : Pm} (h : Le φ φ') {a a' : Addr} {l c c' : Nat} (ha : AR φ a a') (k : CR φ a l c c') : CR φ' a l c c' := by
  have h1 := h a.block
  unfold CR AR at *
  cases e : φ a.block with
  | none => simp [e] at ha
  | val v => simp [e] at ha
  | dead => simp only [e] at h1; simp [h1]
  | live B o S g s =>
    simp only [e] at h1 k
    rcases h1 with h1 | h1 <;> simp only [h1]
    exact k
theorem MR.mono {φ φ' : Pm} (h : Le φ φ') {r r' : Nat} (k : MR φ r r') : MR φ' r r' := by
  have h1 := h r
  unfold MR at *
  cases e : φ r with
  | none => simp [e] at k
  | val v => simp [e] at k
  | dead => simp only [e] at h1; simp [h1]
  | live B o S g s =>
    simp only [e] at h1 k
    rcases h1 with h1 | h1 <;> simp only [h1]
    exact k
theorem VR.mono {φ φ' : Pm} (h : Le φ φ') {v v' : Value} (k : VR φ v v') : VR φ' v v' := by
  induction k with
  | leaf h => exact .leaf h
  | opq h hs => exact .opq h hs
  | @top r v hr h1 hc => exact .top (by have := h r; simp only [hr] at this; exact this) h1 hc
  | ptr h1 => exact .ptr (h1.mono h)
  | slice h1 h2 => exact .slice (h1.mono h) (CR.mono h h1 h2)
  | map h1 => exact .map (h1.mono h)
  | func hs _ hs2 _ ih ih2 => exact .func hs ih hs2 ih2
  | iface _ ih => exact .iface ih
  | agg hs _ ih => exact .agg hs ih
  | tuple hs _ ih => exact .tuple hs ih

/-- Lists of values, one by one. -/
def LR (φ : Pm) (xs xs' : List Value) : Prop := xs.length = xs'.length ∧ ∀ (i : Nat) (v v' : Value), xs[i]? = some v → xs'[i]? = some v' → VR φ v v'
theorem LR.mono {φ φ' : Pm} (h : Le φ φ') {xs xs' : List Value} (k : LR φ xs xs') : LR φ' xs xs' := ⟨k.1, fun i v v' a b => (k.2 i v v' a b).mono h⟩
theorem LR.nil {φ : Pm} : LR φ [] [] := ⟨rfl, fun i v v' h => by simp at h⟩
theorem LR.cons {φ : Pm} {x x' : Value} {xs xs' : List Value} (h : VR φ x x') (k : LR φ xs xs') : LR φ (x :: xs) (x' :: xs') :=
  ⟨by simp [k.1], fun i v v' a b => by cases i with
    | zero => simp at a b; subst a; subst b; exact h
    | succ i => exact k.2 i v v' (by simpa using a) (by simpa using b)⟩
theorem LR.cons_inv {φ : Pm} {x x' : Value} {xs xs' : List Value} (k : LR φ (x :: xs) (x' :: xs')) : VR φ x x' ∧ LR φ xs xs' :=
  ⟨k.2 0 x x' rfl rfl, by have := k.1; simpa using this, fun i v v' a b => k.2 (i + 1) v v' (by simpa using a) (by simpa using b)⟩
theorem LR.append {φ : Pm} : ∀ {xs xs' ys ys' : List Value}, LR φ xs xs' → LR φ ys ys' → LR φ (xs ++ ys) (xs' ++ ys')
  | [], [], _, _, _, k => k
  | [], _ :: _, _, _, h, _ => absurd h.1 (by simp)
  | _ :: _, [], _, _, h, _ => absurd h.1 (by simp)
  | _ :: _, _ :: _, _, _, h, k => by
    obtain ⟨h1, h2⟩ := h.cons_inv
    exact LR.cons h1 (h2.append k)
theorem LR.get {φ : Pm} {xs xs' : List Value} (k : LR φ xs xs') {i : Nat} {v : Value} (h : xs[i]? = some v) : ∃ v', xs'[i]? = some v' ∧ VR φ v v' := by
  have hi : i < xs.length := by
    rcases Nat.lt_or_ge i xs.length with h' | h'
    · exact h'
    · simp [List.getElem?_eq_none h'] at h
  have hi' : i < xs'.length := by rw [← k.1]; exact hi
  exact ⟨xs'[i], by simp [hi'], k.2 i _ _ h (by simp [hi'])⟩
theorem LR.take {φ : Pm} {xs xs' : List Value} (k : LR φ xs xs') (n : Nat) : LR φ (xs.take n) (xs'.take n) :=
  ⟨by simp [k.1], fun i v v' a b => by
    rw [List.getElem?_take] at a b
    by_cases h : i < n
    · simp only [h, if_true] at a b; exact k.2 i v v' a b
    · simp [h] at a⟩
theorem LR.drop {φ : Pm} {xs xs' : List Value} (k : LR φ xs xs') (n : Nat) : LR φ (xs.drop n) (xs'.drop n) :=
  ⟨by simp [k.1], fun i v v' a b => by
    rw [List.getElem?_drop] at a b; exact k.2 _ v v' a b⟩
theorem LR.set {φ : Pm} {xs xs' : List Value} (k : LR φ xs xs') (n : Nat) {v v' : Value} (h : VR φ v v') : LR φ (xs.set n v) (xs'.set n v') :=
  ⟨by simp [k.1], fun i u u' a b => by
    rw [List.getElem?_set] at a b
    by_cases e : n = i
    · subst e
      by_cases hn : n < xs.length
      · have hn' : n < xs'.length := by rw [← k.1]; exact hn
        simp only [hn, hn', if_true] at a b
        cases a; cases b; exact h
      · simp [hn] at a
    · simp only [e, if_false] at a b; exact k.2 i u u' a b⟩
theorem LR.replicate {φ : Pm} {v v' : Value} (h : VR φ v v') (n : Nat) : LR φ (List.replicate n v) (List.replicate n v') :=
  ⟨by simp, fun i u u' a b => by
    rw [List.getElem?_replicate] at a b
    by_cases hn : i < n
    · simp only [hn, if_true] at a b; cases a; cases b; exact h
    · simp [hn] at a⟩
theorem VR.agg_iff {φ : Pm} {xs xs' : List Value} : VR φ (.agg ⟨xs⟩) (.agg ⟨xs'⟩) ↔ LR φ xs xs' :=
  ⟨fun h => by cases h with
    | leaf h => simp [leafB] at h
    | agg hs h => exact ⟨by simpa using hs, fun i v v' a b => h i v v' (by simpa using a) (by simpa using b)⟩,
   fun h => .agg (by simpa using h.1) fun i v v' a b => h.2 i v v' (by simpa using a) (by simpa using b)⟩
theorem VR.tuple_iff {φ : Pm} {xs xs' : List Value} : VR φ (.tuple ⟨xs⟩) (.tuple ⟨xs'⟩) ↔ LR φ xs xs' :=
  ⟨fun h => by cases h with
    | leaf h => simp [leafB] at h
    | tuple hs h => exact ⟨by simpa using hs, fun i v v' a b => h i v v' (by simpa using a) (by simpa using b)⟩,
   fun h => .tuple (by simpa using h.1) fun i v v' a b => h.2 i v v' (by simpa using a) (by simpa using b)⟩

/-! ### plain values: no address in them -/
def plainB : Nat → Value → Bool
  | d + 1, .iface _ v => plainB d v
  | d + 1, .agg cs => cs.toList.all (plainB d)
  | d + 1, .tuple cs => cs.toList.all (plainB d)
  | d + 1, .func _ xs ys => xs.toList.all (plainB d) && ys.toList.all (plainB d)
  | _, v => leafB v
theorem arr_eq {xs xs' : Array Value} (hs : xs.size = xs'.size) (h : ∀ (i : Nat) (v v' : Value), xs[i]? = some v → xs'[i]? = some v' → v' = v) : xs' = xs := by
  apply Array.ext hs.symm
  intro i h1 h2
  exact h i _ _ (by simp [h2]) (by simp [h1])
theorem plain_eq {φ : Pm} : ∀ (d : Nat) (v v' : Value), plainB d v = true → VR φ v v' → v' = v := by
  intro d
  induction d with
  | zero =>
    intro v v' h k
    cases k with
    | leaf => rfl
    | opq hm => simp [plainB, leafB, hm] at h
    | _ => simp [plainB, leafB] at h
  | succ d ih =>
    intro v v' h k
    cases k with
    | leaf => rfl
    | opq hm => simp [plainB, leafB, hm] at h
    | top => simp [plainB, leafB] at h
    | ptr => simp [plainB, leafB] at h
    | slice => simp [plainB, leafB] at h
    | map => simp [plainB, leafB] at h
    | func hs h1 hs2 h2 =>
      simp only [plainB, Bool.and_eq_true, List.all_eq_true] at h
      rw [arr_eq hs fun i v v' a b => ih v v' (h.1 v (by exact Array.mem_toList_iff.2 (Array.mem_of_getElem? a))) (h1 i v v' a b),
        arr_eq hs2 fun i v v' a b => ih v v' (h.2 v (by exact Array.mem_toList_iff.2 (Array.mem_of_getElem? a))) (h2 i v v' a b)]
    | iface h1 => rw [ih _ _ (by simpa [plainB] using h) h1]
    | agg hs h1 =>
      simp only [plainB, List.all_eq_true] at h
      rw [arr_eq hs fun i v v' a b => ih v v' (h v (by exact Array.mem_toList_iff.2 (Array.mem_of_getElem? a))) (h1 i v v' a b)]
    | tuple hs h1 =>
      simp only [plainB, List.all_eq_true] at h
      rw [arr_eq hs fun i v v' a b => ih v v' (h v (by exact Array.mem_toList_iff.2 (Array.mem_of_getElem? a))) (h1 i v v' a b)]
theorem plain_list0 {φ : Pm} {d : Nat} : ∀ {xs xs' : List Value}, xs.all (plainB d) = true → LR φ xs xs' → xs' = xs
  | [], [], _, _ => rfl
  | [], _ :: _, _, h => absurd h.1 (by simp)
  | _ :: _, [], _, h => absurd h.1 (by simp)
  | x :: xs, x' :: xs', h, k => by
    simp only [List.all_cons, Bool.and_eq_true] at h
    obtain ⟨k1, k2⟩ := k.cons_inv
    rw [plain_eq d _ _ h.1 k1, plain_list0 h.2 k2]
theorem plain_refl {φ : Pm} : ∀ (d : Nat) (v : Value), plainB d v = true → VR φ v v := by
  intro d
  induction d with
  | zero => intro v h; exact .leaf (by simpa [plainB] using h)
  | succ d ih =>
    intro v h
    have arr : ∀ xs : Array Value, (∀ x ∈ xs.toList, plainB d x = true) → ∀ (i : Nat) (v v' : Value), xs[i]? = some v → xs[i]? = some v' → VR φ v v' := fun xs hx i v v' a b => by
      rw [a] at b; cases b; exact ih v (hx v (Array.mem_toList_iff.2 (Array.mem_of_getElem? a)))
    cases v with
    | iface t u => exact .iface (ih u (by simpa [plainB] using h))
    | agg cs => simp only [plainB, List.all_eq_true] at h; exact .agg rfl (arr _ h)
    | tuple cs => simp only [plainB, List.all_eq_true] at h; exact .tuple rfl (arr _ h)
    | func fn xs ys => simp only [plainB, Bool.and_eq_true, List.all_eq_true] at h; exact .func rfl (arr _ h.1) rfl (arr _ h.2)
    | _ => exact .leaf (by simpa [plainB] using h)

/-! ### the blocks -/
inductive Ob where
  | cells (cs : List Value) (elem : TypeId) (g : Bool) (s : Nat)
  | map (es : List MapEntry) (clock : Nat)
  | iter (s : ByteArray) (pos : Nat)
  | bytes (cs : List Value) (elem : TypeId)
  | miter (m : Option Nat) (since : Nat) (seen : List Nat) (last : Nat)
structure St where
  heap : Tr Ob
  next : Nat

def ER (φ : Pm) (e e' : MapEntry) : Prop := VR φ e.key e'.key ∧ VR φ e.val e'.val ∧ e'.born = e.born
def OMR (φ : Pm) : Option Nat → Option Nat → Prop
  | none, none => True
  | some r, some r' => MR φ r r'
  | _, _ => False
theorem OMR.mono {φ φ' : Pm} (h : Le φ φ') : ∀ {m m' : Option Nat}, OMR φ m m' → OMR φ' m m'
  | none, none, _ => trivial
  | some _, some _, k => MR.mono h k
  | none, some _, k => k.elim
  | some _, none, k => k.elim
/-- A block of one's own, and the world's object where it lies. -/
def OR (φ : Pm) (x : Ob) (y : Option Obj) (o S : Nat) (g : Bool) (s : Nat) : Prop :=
  match x with
  | .cells cs elem g0 s0 => g = g0 ∧ s = s0 ∧ ∃ arr : Array Value, y = some (.cells arr elem (0, 0)) ∧ arr.size = S ∧ o + cs.length ≤ S ∧ (g = false → o = 0 ∧ cs.length = S) ∧ LR φ cs ((arr.toList.drop o).take cs.length)
  | .map es clock => ∃ es' : Array MapEntry, y = some (.map es' clock) ∧ es.length = es'.size ∧ ∀ (i : Nat) (e e' : MapEntry), es[i]? = some e → es'[i]? = some e' → ER φ e e'
  | .iter t pos => o = 0 ∧ y = some (.stringIter t pos)
  | .bytes cs _ => ∃ arr e fz, y = some (.cells arr e fz) ∧ arr.size = S ∧ o + cs.length ≤ S ∧ LR φ cs ((arr.toList.drop o).take cs.length)
  | .miter m since seen last => o = 0 ∧ ∃ m', y = some (.mapIter m' since ⟨seen⟩ last) ∧ OMR φ m m'
theorem OR.mono {φ φ' : Pm} (h : Le φ φ') {x : Ob} {y : Option Obj} {o S : Nat} {g : Bool} {s : Nat} (k : OR φ x y o S g s) : OR φ' x y o S g s := by
  cases x with
  | cells cs elem g0 s0 =>
    obtain ⟨h1, h2, arr, h3, h4, h5, h6, h7⟩ := k
    exact ⟨h1, h2, arr, h3, h4, h5, h6, h7.mono h⟩
  | map es clock =>
    obtain ⟨es', h1, h2, h3⟩ := k
    exact ⟨es', h1, h2, fun i e e' a b => by
      obtain ⟨k1, k2, k3⟩ := h3 i e e' a b
      exact ⟨k1.mono h, k2.mono h, k3⟩⟩
  | iter t pos => exact k
  | bytes cs elem =>
    obtain ⟨arr, e, fz, h3, h4, h5, h7⟩ := k
    exact ⟨arr, e, fz, h3, h4, h5, h7.mono h⟩
  | miter m since seen last =>
    obtain ⟨h1, m', h2, h3⟩ := k
    exact ⟨h1, m', h2, h3.mono h⟩

/-- Where the call began; and what the numbers stand for that name values. -/
structure W0 where
  w : World
  env : Nat → Value
  m : Nat
  one : ∀ r, r < m → (env r).oneCell' = true ∧ (env r).cells = #[env r]
/-- The first numbers name their values, and no other one names one. -/
def Sy (w0 : W0) (φ : Pm) : Prop := (∀ r, r < w0.m → φ r = .val (w0.env r)) ∧ ∀ r v, φ r = .val v → v = w0.env r
/-- Rows that are read alone: they may lie anywhere. -/
def roB : Ob → Bool
  | .bytes .. => true
  | _ => false
/-- The blocks of one's own and the world, from a call's begin on. -/
structure HR (w0 : W0) (φ : Pm) (st : St) (w : World) : Prop where
  below : Below w0.w.heap.size w0.w w
  fresh : ∀ b, st.next ≤ b → φ b = .none
  absent : ∀ b, st.next ≤ b → st.heap.get b = none
  obj : ∀ b ob, st.heap.get b = some ob → φ b ≠ .none → ∃ B o S g s, φ b = .live B o S g s ∧ (roB ob = false → w0.w.heap.size ≤ B) ∧ OR φ ob w.heap[B]? o S g s
  inj : ∀ b1 b2 B o1 S1 g1 s1 o2 S2 g2 s2, w0.w.heap.size ≤ B → φ b1 = .live B o1 S1 g1 s1 → φ b2 = .live B o2 S2 g2 s2 → b1 = b2
  used : ∀ b B o S g s, φ b = .live B o S g s → B < w.heap.size
  sym : Sy w0 φ

/-- The same heap. -/
structure Same (w w' : World) : Prop where
  heap : w'.heap = w.heap
  os : w'.os = w.os
  tape : w'.tape = w.tape
  output : w'.output = w.output
theorem Same.refl (w : World) : Same w w := ⟨rfl, rfl, rfl, rfl⟩
theorem Same.trans {a b c : World} (h : Same a b) (k : Same b c) : Same a c := ⟨k.heap.trans h.heap, k.os.trans h.os, k.tape.trans h.tape, k.output.trans h.output⟩
theorem Same.drew (w : World) : Same w w.drew := ⟨rfl, rfl, rfl, rfl⟩
theorem Same.below {w w' : World} (h : Same w w') (B : Nat) : Below B w w' := ⟨h.os, h.tape, h.output, by rw [h.heap]; exact Nat.le_refl _, fun k _ => by rw [h.heap]⟩
theorem HR.same {w0 : W0} {w w' : World} {φ : Pm} {st : St} (h : HR w0 φ st w) (k : Same w w') : HR w0 φ st w' :=
  ⟨h.below.trans (k.below _), h.fresh, h.absent, fun b ob hb hn => by rw [k.heap]; exact h.obj b ob hb hn, h.inj, fun b B o S g s hb => by rw [k.heap]; exact h.used b B o S g s hb, h.sym⟩

/-- A place told. -/
def Pm.tell (φ : Pm) (b : Nat) (p : Pl) : Pm := fun c => if c = b then p else φ c
theorem Pm.tell_same (φ : Pm) (b : Nat) (p : Pl) : φ.tell b p b = p := by simp [Pm.tell]
theorem Pm.tell_other (φ : Pm) (b c : Nat) (p : Pl) (h : c ≠ b) : φ.tell b p c = φ c := by simp [Pm.tell, h]
theorem Le.tell {φ : Pm} {b : Nat} {p : Pl} (h : φ b = .none) : Le φ (φ.tell b p) := fun c => by
  by_cases e : c = b
  · subst e; simp [h]
  · rw [Pm.tell_other _ _ _ _ e]
    cases φ c <;> simp

/-- A new block, whose number may be taken already. -/
theorem HR.new {w0 : W0} {w w' : World} {φ : Pm} {st : St} (h : HR w0 φ st w) {b : Nat} (hb : φ b = .none) {n : Nat} (hn : st.next ≤ n) (hbn : b < n) {ob : Ob} {ob' : Obj} {S : Nat} {g : Bool} {s : Nat}
    (hw : w'.heap = w.heap.push ob') (h1 : w'.os = w.os) (h2 : w'.tape = w.tape) (h3 : w'.output = w.output)
    (ho : OR (φ.tell b (.live w.heap.size 0 S g s)) ob (some ob') 0 S g s) :
    HR w0 (φ.tell b (.live w.heap.size 0 S g s)) ⟨st.heap.put b (some ob), n⟩ w' := by
  have hle : Le φ (φ.tell b (.live w.heap.size 0 S g s)) := Le.tell hb
  have hsz := h.below.size
  have hold : ∀ B, B < w.heap.size → w'.heap[B]? = w.heap[B]? := fun B hB => by rw [hw, Array.getElem?_push, if_neg (by omega)]
  refine ⟨h.below.trans ⟨h1, h2, h3, by rw [hw]; simp, fun k hk => hold k (by omega)⟩, ?_, ?_, ?_, ?_, ?_, ?_⟩
  · intro c hc
    rw [Pm.tell_other _ _ _ _ (by simp at hc; omega)]
    exact h.fresh c (by simp at hc; omega)
  · intro c hc
    simp only at hc ⊢
    rw [Tr.get_put_eq, if_neg (by omega)]
    exact h.absent c (by omega)
  · intro c x hc hcn
    simp only [Tr.get_put_eq] at hc
    by_cases e : c = b
    · subst e
      simp only [if_true] at hc
      cases hc
      exact ⟨w.heap.size, 0, S, g, s, Pm.tell_same _ _ _, fun _ => hsz, by rw [hw]; simpa using ho⟩
    · simp only [e, if_false] at hc
      rw [Pm.tell_other _ _ _ _ e] at hcn
      obtain ⟨B, o, S', g', s', k1, k2, k3⟩ := h.obj c x hc hcn
      have := h.used c B o S' g' s' k1
      exact ⟨B, o, S', g', s', by rw [Pm.tell_other _ _ _ _ e]; exact k1, k2, by rw [hold B this]; exact k3.mono hle⟩
  · intro b1 b2 B o1 S1 g1 s1 o2 S2 g2 s2 k0 k1 k2
    by_cases e1 : b1 = b
    · by_cases e2 : b2 = b
      · rw [e1, e2]
      · subst e1
        rw [Pm.tell_same] at k1
        rw [Pm.tell_other _ _ _ _ e2] at k2
        cases k1
        exact absurd (h.used _ _ _ _ _ _ k2) (by omega)
    · rw [Pm.tell_other _ _ _ _ e1] at k1
      by_cases e2 : b2 = b
      · subst e2
        rw [Pm.tell_same] at k2
        cases k2
        exact absurd (h.used _ _ _ _ _ _ k1) (by omega)
      · rw [Pm.tell_other _ _ _ _ e2] at k2
        exact h.inj _ _ _ _ _ _ _ _ _ _ _ k0 k1 k2
  · intro c B o S' g' s' k
    rw [hw]
    simp only [Array.size_push]
    by_cases e : c = b
    · subst e; rw [Pm.tell_same] at k; cases k; omega
    · rw [Pm.tell_other _ _ _ _ e] at k
      have := h.used _ _ _ _ _ _ k
      omega
  · refine ⟨fun r hr => ?_, fun r v k => ?_⟩
    · have hv := h.sym.1 r hr
      rw [Pm.tell_other _ _ _ _ (fun e => by subst e; rw [hv] at hb; cases hb)]; exact hv
    · by_cases e : r = b
      · subst e; rw [Pm.tell_same] at k; cases k
      · rw [Pm.tell_other _ _ _ _ e] at k; exact h.sym.2 r v k

/-- A block told of that lies nowhere yet. -/
theorem HR.virt {w0 : W0} {w : World} {φ : Pm} {st : St} (h : HR w0 φ st w) (ob : Ob) : HR w0 φ ⟨st.heap.put st.next (some ob), st.next + 1⟩ w := by
  refine ⟨h.below, fun c hc => h.fresh c (by simp at hc; omega), ?_, ?_, h.inj, h.used, h.sym⟩
  · intro c hc
    simp only at hc ⊢
    rw [Tr.get_put_eq, if_neg (by omega)]
    exact h.absent c (by omega)
  · intro c x hc hcn
    simp only [Tr.get_put_eq] at hc
    by_cases e : c = st.next
    · subst e; exact absurd (h.fresh _ (Nat.le_refl _)) hcn
    · simp only [e, if_false] at hc
      exact h.obj c x hc hcn
/-- It is made. -/
theorem HR.real {w0 : W0} {w w' : World} {φ : Pm} {st : St} (h : HR w0 φ st w) {b : Nat} (hb : φ b = .none) {ob : Ob} (hob : st.heap.get b = some ob) {ob' : Obj} {S : Nat} {g : Bool} {s : Nat}
    (hw : w'.heap = w.heap.push ob') (h1 : w'.os = w.os) (h2 : w'.tape = w.tape) (h3 : w'.output = w.output)
    (ho : OR (φ.tell b (.live w.heap.size 0 S g s)) ob (some ob') 0 S g s) :
    HR w0 (φ.tell b (.live w.heap.size 0 S g s)) st w' := by
  have hbn : b < st.next := by
    rcases Nat.lt_or_ge b st.next with h' | h'
    · exact h'
    · rw [h.absent b h'] at hob; cases hob
  have := h.new hb (Nat.le_refl _) hbn (ob := ob) hw h1 h2 h3 ho
  refine ⟨this.below, this.fresh, h.absent, fun c x hc hcn => this.obj c x ?_ hcn, this.inj, this.used, this.sym⟩
  simp only [Tr.get_put_eq]
  split
  · rename_i e; subst e; rw [← hob, hc]
  · exact hc

/-- A block turned where it lies. -/
theorem HR.turn {w0 : W0} {w w' : World} {φ : Pm} {st : St} (h : HR w0 φ st w) {b : Nat} {x : Ob} (hb : st.heap.get b = some x) (hx : roB x = false) {B o S : Nat} {g : Bool} {s : Nat} (hp : φ b = .live B o S g s)
    {ob : Ob} {ob' : Obj} (hw : w'.heap[B]? = some ob') (hz : w'.heap.size = w.heap.size) (ho : ∀ k, k ≠ B → w'.heap[k]? = w.heap[k]?) (h1 : w'.os = w.os) (h2 : w'.tape = w.tape) (h3 : w'.output = w.output)
    (hr : OR φ ob (some ob') o S g s) : HR w0 φ ⟨st.heap.put b (some ob), st.next⟩ w' := by
  obtain ⟨B', o', S', g', s', k1, k2, _⟩ := h.obj b x hb (by rw [hp]; simp)
  have eB : B' = B := by rw [hp] at k1; cases k1; rfl
  rw [eB] at k2
  have k2 := k2 hx
  have hbn : b < st.next := by
    rcases Nat.lt_or_ge b st.next with h' | h'
    · exact h'
    · rw [h.absent b h'] at hb; cases hb
  refine ⟨h.below.trans ⟨h1, h2, h3, by omega, fun k hk => ho k (by omega)⟩, h.fresh, ?_, ?_, h.inj, fun c B o S g s hc => by rw [hz]; exact h.used c B o S g s hc, h.sym⟩
  · intro c hc
    simp only at hc ⊢
    rw [Tr.get_put_eq, if_neg (by omega)]
    exact h.absent c hc
  · intro c y hc hcn
    simp only [Tr.get_put_eq] at hc
    by_cases e : c = b
    · subst e
      simp only [if_true] at hc
      cases hc
      exact ⟨B, o, S, g, s, hp, fun _ => k2, by rw [hw]; exact hr⟩
    · simp only [e, if_false] at hc
      obtain ⟨B', o', S', g', s', k1, k2, k3⟩ := h.obj c y hc hcn
      have hne : B' ≠ B := fun e' => by subst e'; exact e (h.inj _ _ _ _ _ _ _ _ _ _ _ (by assumption) k1 hp)
      exact ⟨B', o', S', g', s', k1, k2, by rw [ho B' hne]; exact k3⟩

/-- A block that is looked at no longer, and another one in its place: what append does where there is room. -/
theorem HR.move {w0 : W0} {w w' : World} {φ : Pm} {st : St} (h : HR w0 φ st w) {b c : Nat} {x : Ob} (hb : st.heap.get b = some x) (hx : roB x = false) {B o S : Nat} {g : Bool} {s : Nat} (hp : φ b = .live B o S g s)
    (hc : φ c = .none) {n : Nat} (hn : st.next ≤ n) (hcn : c < n) {o2 : Nat} {g2 : Bool} {s2 : Nat}
    {ob : Ob} {ob' : Obj} (hw : w'.heap[B]? = some ob') (hz : w'.heap.size = w.heap.size) (ho : ∀ k, k ≠ B → w'.heap[k]? = w.heap[k]?) (h1 : w'.os = w.os) (h2 : w'.tape = w.tape) (h3 : w'.output = w.output)
    (hr : OR ((φ.tell b .dead).tell c (.live B o2 S g2 s2)) ob (some ob') o2 S g2 s2) :
    HR w0 ((φ.tell b .dead).tell c (.live B o2 S g2 s2)) ⟨(st.heap.put b none).put c (some ob), n⟩ w' ∧ Le φ ((φ.tell b .dead).tell c (.live B o2 S g2 s2)) := by
  have hbc : c ≠ b := fun e => by subst e; rw [hc] at hp; cases hp
  have hle : Le φ ((φ.tell b .dead).tell c (.live B o2 S g2 s2)) := fun d => by
    by_cases e : d = c
    · subst e; simp [hc]
    · rw [Pm.tell_other _ _ _ _ e]
      by_cases e2 : d = b
      · subst e2; rw [Pm.tell_same]; simp [hp]
      · rw [Pm.tell_other _ _ _ _ e2]; cases φ d <;> simp
  obtain ⟨B', o', S', g', s', k1, k2, _⟩ := h.obj b x hb (by rw [hp]; simp)
  have eB : B' = B := by rw [hp] at k1; cases k1; rfl
  rw [eB] at k2
  have k2 := k2 hx
  have hbn : b < st.next := by
    rcases Nat.lt_or_ge b st.next with h' | h'
    · exact h'
    · rw [h.absent b h'] at hb; cases hb
  refine ⟨⟨h.below.trans ⟨h1, h2, h3, by omega, fun k hk => ho k (by omega)⟩, ?_, ?_, ?_, ?_, ?_, ?_⟩, hle⟩
  · intro d hd
    simp only at hd
    rw [Pm.tell_other _ _ _ _ (by omega), Pm.tell_other _ _ _ _ (by omega)]
    exact h.fresh d (by omega)
  · intro d hd
    simp only at hd ⊢
    rw [Tr.get_put_eq, if_neg (by omega), Tr.get_put_eq, if_neg (by omega)]
    exact h.absent d (by omega)
  · intro d y hd hdn
    simp only [Tr.get_put_eq] at hd
    by_cases e : d = c
    · subst e
      simp only [if_true] at hd
      cases hd
      exact ⟨B, o2, S, g2, s2, Pm.tell_same _ _ _, fun _ => k2, by rw [hw]; exact hr⟩
    · simp only [e, if_false] at hd
      rw [Pm.tell_other _ _ _ _ e] at hdn
      by_cases e2 : d = b
      · subst e2; simp at hd
      · simp only [e2, if_false] at hd
        rw [Pm.tell_other _ _ _ _ e2] at hdn
        obtain ⟨B', o', S', g', s', k1, k2, k3⟩ := h.obj d y hd hdn
        have hne : B' ≠ B := fun e' => by subst e'; exact e2 (h.inj _ _ _ _ _ _ _ _ _ _ _ (by assumption) k1 hp)
        exact ⟨B', o', S', g', s', by rw [Pm.tell_other _ _ _ _ e, Pm.tell_other _ _ _ _ e2]; exact k1, k2, by rw [ho B' hne]; exact k3.mono hle⟩
  · intro b1 b2 B1 o1 S1 g1 s1 o3 S3 g3 s3 k0 k1 k2
    have key : ∀ d B1 o1 S1 g1 s1, ((φ.tell b .dead).tell c (.live B o2 S g2 s2)) d = .live B1 o1 S1 g1 s1 → (d = c ∧ B1 = B) ∨ (d ≠ c ∧ d ≠ b ∧ φ d = .live B1 o1 S1 g1 s1) := by
      intro d B1 o1 S1 g1 s1 hd
      by_cases e : d = c
      · subst e; rw [Pm.tell_same] at hd; cases hd; exact .inl ⟨rfl, rfl⟩
      · rw [Pm.tell_other _ _ _ _ e] at hd
        by_cases e2 : d = b
        · subst e2; rw [Pm.tell_same] at hd; cases hd
        · rw [Pm.tell_other _ _ _ _ e2] at hd; exact .inr ⟨e, e2, hd⟩
    rcases key _ _ _ _ _ _ k1 with ⟨e1, e1'⟩ | ⟨e1, e1', e1''⟩ <;> rcases key _ _ _ _ _ _ k2 with ⟨e2, e2'⟩ | ⟨e2, e2', e2''⟩
    · rw [e1, e2]
    · subst e1'; exact absurd (h.inj _ _ _ _ _ _ _ _ _ _ _ k0 e2'' hp) e2'
    · subst e2'; exact absurd (h.inj _ _ _ _ _ _ _ _ _ _ _ k0 e1'' hp) e1'
    · exact h.inj _ _ _ _ _ _ _ _ _ _ _ k0 e1'' e2''
  · intro d B1 o1 S1 g1 s1 hd
    rw [hz]
    by_cases e : d = c
    · subst e; rw [Pm.tell_same] at hd; cases hd; exact h.used _ _ _ _ _ _ hp
    · rw [Pm.tell_other _ _ _ _ e] at hd
      by_cases e2 : d = b
      · subst e2; rw [Pm.tell_same] at hd; cases hd
      · rw [Pm.tell_other _ _ _ _ e2] at hd; exact h.used _ _ _ _ _ _ hd
  · refine ⟨fun r hr => ?_, fun r v k => ?_⟩
    · have hv := h.sym.1 r hr
      rw [Pm.tell_other _ _ _ _ (fun e => by subst e; rw [hv] at hc; cases hc), Pm.tell_other _ _ _ _ (fun e => by subst e; rw [hv] at hp; cases hp)]; exact hv
    · by_cases e : r = c
      · subst e; rw [Pm.tell_same] at k; cases k
      · rw [Pm.tell_other _ _ _ _ e] at k
        by_cases e2 : r = b
        · subst e2; rw [Pm.tell_same] at k; cases k
        · rw [Pm.tell_other _ _ _ _ e2] at k; exact h.sym.2 r v k
end Go.Ev

namespace Go.Ev
open Go Go.RowKit

def sizeB (P : Program) (t : TypeId) : Option Nat := match P.info? t with | some i => some i.size | none => none
def aggB (P : Program) (t : TypeId) : Option Bool := match P.underlying t with | some (.struct _) => some true | some (.array _ _) => some true | some _ => some false | none => none
def zeroB (P : Program) (t : TypeId) : Option Value := match P.info? t with
  | some i => match i.zero with
    | some z => if plainB 3 z then some z else none
    | none => none
  | none => none

theorem run_size {P : Program} {t : TypeId} {n : Nat} (h : sizeB P t = some n) (w : World) : (sizeOf t).run P w = .ok n w := by
  unfold sizeB at h
  split at h
  · rename_i i hi; cases h; simp [sizeOf, typeInfo, hi]
  · cases h
theorem run_agg {P : Program} {t : TypeId} {b : Bool} (h : aggB P t = some b) (w : World) : (isAgg t).run P w = .ok b w := by
  unfold aggB at h
  split at h
  · rename_i fs hu; cases h; simp [isAgg, run_underlying hu]
  · rename_i n e hu; cases h; simp [isAgg, run_underlying hu]
  · rename_i d h1 h2 hu
    cases h
    cases d <;> first | (simp [isAgg, run_underlying hu]; done) | exact absurd rfl (h1 _) | exact absurd rfl (h2 _ _)
  · cases h
theorem run_zero {P : Program} {t : TypeId} {z : Value} (h : zeroB P t = some z) (w : World) : (zeroValue t).run P w = .ok z w ∧ plainB 3 z = true := by
  unfold zeroB at h
  split at h
  · rename_i i hi
    split at h
    · rename_i z' hz
      split at h
      · rename_i hp; cases h; exact ⟨by simp [zeroValue, typeInfo, hi, hz], hp⟩
      · cases h
    · cases h
  · cases h

theorem VR.undef (φ : Pm) : VR φ undef undef := .tuple rfl fun i v v' h => by simp at h
theorem VR.cells {φ : Pm} {v v' : Value} (h : VR φ v v') : LR φ v.cells.toList v'.cells.toList := by
  cases h with
  | agg hs h => exact ⟨by simpa [Value.cells] using hs, fun i u u' a b => h i u u' (by simpa [Value.cells] using a) (by simpa [Value.cells] using b)⟩
  | leaf h => cases v <;> first | exact LR.cons (.leaf h) LR.nil | simp [leafB] at h
  | opq h hs => exact LR.cons (.opq h hs) LR.nil
  | top hr h hc => rw [hc]; exact LR.cons (.top hr h hc) LR.nil
  | ptr h => exact LR.cons (.ptr h) LR.nil
  | slice h hc => exact LR.cons (.slice h hc) LR.nil
  | map h => exact LR.cons (.map h) LR.nil
  | func a b c d => exact LR.cons (.func a b c d) LR.nil
  | iface h => exact LR.cons (.iface h) LR.nil
  | tuple a b => exact LR.cons (.tuple a b) LR.nil
theorem VR.oneCell {φ : Pm} {v v' : Value} (h : VR φ v v') : v'.oneCell' = v.oneCell' := by cases h <;> first | rfl | assumption
theorem LR.all_one {φ : Pm} {xs xs' : List Value} (h : LR φ xs xs') (k : xs.all (·.oneCell') = true) : ∀ v ∈ xs', v.oneCell' = true := by
  intro v hv
  obtain ⟨i, hi, rfl⟩ := List.mem_iff_getElem.1 hv
  have hi2 : i < xs.length := by rw [h.1]; exact hi
  have := h.2 i xs[i] xs'[i] (by simp [hi2]) (by simp [hi])
  rw [this.oneCell]
  exact List.all_eq_true.1 k _ (List.getElem_mem hi2)

theorem AR.add {φ : Pm} {a a' : Addr} (h : AR φ a a') (n : Nat) : AR φ (a.add n) (a'.add n) := by
  have hb : (a.add n).block = a.block := by unfold Addr.add; split <;> rfl
  unfold AR at *
  rw [hb]
  cases e : φ a.block with
  | none => simp [e] at h
  | val v => simp [e] at h
  | dead => trivial
  | live B o S g s =>
    simp only [e] at h ⊢
    obtain ⟨h1, rfl⟩ := h
    by_cases hn : n = 0
    · subst hn; simp [Addr.add, h1]
    · simp [Addr.add, hn, Nat.add_assoc]

/-! ### reading and writing cells -/
def aloadCells (st : St) (a : Addr) (n : Nat) : Option (List Value) :=
  match st.heap.get a.block with
  | some (.cells cs _ _ _) => if Nat.ble (a.off + n) cs.length then some ((cs.drop a.off).take n) else none
  | some (.bytes cs _) => if Nat.ble (a.off + n) cs.length then some ((cs.drop a.off).take n) else none
  | _ => none
theorem aload_at {w : World} {φ : Pm} {B o : Nat} {arr : Array Value} {elem : TypeId} {fz : Nat × Nat} (k5 : w.heap[B]? = some (.cells arr elem fz)) {cs : List Value} {S : Nat} (k6 : arr.size = S) (k7 : o + cs.length ≤ S) (k9 : LR φ cs ((arr.toList.drop o).take cs.length)) {off n : Nat} (hle : off + n ≤ cs.length) :
    ∃ l', l'.length = n ∧ LR φ ((cs.drop off).take n) l' ∧ ∀ j v, l'[j]? = some v → w.cell? ((⟨B, o + off, none⟩ : Addr).add j) = some v := by
  refine ⟨((((arr.toList.drop o).take cs.length).drop off).take n), ?_, (k9.drop _).take _, ?_⟩
  · simp; omega
  · intro j v hj
    rw [List.getElem?_take] at hj
    split at hj
    · rename_i hjn
      rw [List.getElem?_drop, List.getElem?_take, if_pos (by omega), List.getElem?_drop] at hj
      rw [Addr.add_lit]
      simp only [World.cell?, k5]
      simp only [Option.isSome_none, Bool.false_eq_true, if_false]
      rw [← Array.getElem?_toList, ← hj]
      congr 1
      omega
    · cases hj
theorem aload_cells {w0 : W0} {w : World} {φ : Pm} {st : St} (H : HR w0 φ st w) {a a' : Addr} (ha : AR φ a a') {n : Nat} {l : List Value} (h : aloadCells st a n = some l) :
    ∃ l', l'.length = n ∧ LR φ l l' ∧ ∀ j v, l'[j]? = some v → w.cell? (a'.add j) = some v := by
  unfold aloadCells at h
  split at h
  · rename_i cs elem g s hb
    split at h
    · rename_i hle
      cases h
      obtain ⟨B, o, S, g', s', k1, k2, k3, k4, arr, k5, k6, k7, k8, k9⟩ := H.obj _ _ hb ha.ne
      unfold AR at ha
      simp only [k1] at ha
      obtain ⟨h1, rfl⟩ := ha
      exact aload_at k5 k6 k7 k9 (Nat.le_of_ble_eq_true hle)
    · cases h
  · rename_i cs elem hb
    split at h
    · rename_i hle
      cases h
      obtain ⟨B, o, S, g', s', k1, k2, arr, _, fz, k5, k6, k7, k9⟩ := H.obj _ _ hb ha.ne
      unfold AR at ha
      simp only [k1] at ha
      obtain ⟨h1, rfl⟩ := ha
      exact aload_at k5 k6 k7 k9 (Nat.le_of_ble_eq_true hle)
    · cases h
  · cases h

def aload (P : Program) (st : St) (t : TypeId) (v : Value) : Option Value :=
  match v with
  | .pointer (some a) =>
    match aggB P t with
    | some true => match sizeB P t with
      | some n => match aloadCells st a n with
        | some l => some (.agg ⟨l⟩)
        | none => none
      | none => none
    | some false => match aloadCells st a 1 with
      | some (v :: _) => some v
      | _ => none
    | none => none
  | _ => none
theorem run_aloadVar {P : Program} {w0 : W0} {w : World} {φ : Pm} {st : St} (H : HR w0 φ st w) {a a' : Addr} (ha : AR φ a a') {t : TypeId} {u : Value} (h : aload P st t (.pointer (some a)) = some u) :
    ∃ u', (loadVar t a').run P w = .ok u' w ∧ VR φ u u' := by
  unfold aload at h
  simp only at h
  split at h
  · rename_i hg
    split at h
    · rename_i n hn
      split at h
      · rename_i l hl
        cases h
        obtain ⟨l', h1, h2, h3⟩ := aload_cells H ha hl
        have hr := run_loadCells_list (P := P) w a' l' h3
        refine ⟨.agg ⟨l'⟩, ?_, VR.agg_iff.2 h2⟩
        simp only [loadVar, Sem.run_bind, run_agg hg, Result.andThen_ok, if_true, run_size hn, ← h1, hr]
        rfl
      · cases h
    · cases h
  · rename_i hg
    split at h
    · rename_i v rest hl
      cases h
      obtain ⟨l', h1, h2, h3⟩ := aload_cells H ha hl
      match l', h1 with
      | [v'], _ =>
        have hc := h3 0 v' rfl
        rw [Addr.add_zero'] at hc
        refine ⟨v', ?_, h2.2 0 u v' rfl rfl⟩
        simp only [loadVar, Sem.run_bind, run_agg hg, Result.andThen_ok, Bool.false_eq_true, if_false, run_load, hc]
    · cases h
  · cases h

def aputCells (st : St) (a : Addr) (l : List Value) : Option St :=
  match st.heap.get a.block with
  | some (.cells cs e g s) => if Nat.ble (a.off + l.length) cs.length && l.all (·.oneCell') then some { st with heap := st.heap.put a.block (some (.cells (cs.take a.off ++ l ++ cs.drop (a.off + l.length)) e g s)) } else none
  | _ => none

/-- What lies nowhere yet stays so, and as it is told. -/
structure Kept (st : St) (φ : Pm) (st' : St) (φ' : Pm) : Prop where
  next : st.next ≤ st'.next
  le : Le φ φ'
  none : ∀ b, b < st.next → φ b = .none → φ' b = .none ∧ st'.heap.get b = st.heap.get b
theorem Kept.refl (st : St) (φ : Pm) : Kept st φ st φ := ⟨Nat.le_refl _, Le.refl _, fun _ _ h => ⟨h, rfl⟩⟩
theorem Kept.trans {a b c : St} {φ φ' φ'' : Pm} (h : Kept a φ b φ') (k : Kept b φ' c φ'') : Kept a φ c φ'' :=
  ⟨Nat.le_trans h.next k.next, h.le.trans k.le, fun x hx hn => by
    obtain ⟨h1, h2⟩ := h.none x hx hn
    obtain ⟨k1, k2⟩ := k.none x (Nat.lt_of_lt_of_le hx h.next) h1
    exact ⟨k1, k2.trans h2⟩⟩
theorem Kept.put {st : St} {φ : Pm} {b : Nat} {B o S : Nat} {g : Bool} {s : Nat} (hp : φ b = .live B o S g s) (ob : Option Ob) : Kept st φ { st with heap := st.heap.put b ob } φ :=
  ⟨Nat.le_refl _, Le.refl _, fun c _ hc => ⟨hc, by
    show (st.heap.put b ob).get c = _
    rw [Tr.get_put_eq, if_neg (fun e => by subst e; rw [hp] at hc; cases hc)]⟩⟩

theorem setRow_size (w : World) (g : Nat) (c : Array Value) : (w.setRow g c).heap.size = w.heap.size := by simp [World.setRow]

theorem seg_take {l m : List Value} {o n : Nat} (hm : o + m.length ≤ n) (hn : n ≤ l.length) (c : Nat) (hc : c ≤ o) :
    ((l.take o ++ m ++ l.drop (o + m.length)).drop c).take (n - c) = (((l.drop c).take (n - c)).take (o - c)) ++ m ++ (((l.drop c).take (n - c)).drop (o - c + m.length)) := by
  apply List.ext_getElem?
  intro j
  simp only [List.getElem?_take, List.getElem?_drop, List.getElem?_append, List.length_append, List.length_take, List.length_drop]
  repeat' split
  all_goals first
    | rfl
    | omega
    | (congr 1; omega)
    | (rw [List.getElem?_eq_none (by omega)])
    | skip

theorem aput_cells {P : Program} {w0 : W0} {w : World} {φ : Pm} {st st' : St} (H : HR w0 φ st w) {a a' : Addr} (ha : AR φ a a') {l l' : List Value} (hl : LR φ l l') (h : aputCells st a l = some st') :
    ∃ w', (storeCells a' l').run P w = .ok () w' ∧ HR w0 φ st' w' ∧ Kept st φ st' φ := by
  unfold aputCells at h
  split at h
  · rename_i cs elem g s hb
    split at h
    · rename_i hle
      cases h
      simp only [Bool.and_eq_true] at hle
      obtain ⟨hle, hone⟩ := hle
      have hle := Nat.le_of_ble_eq_true hle
      obtain ⟨B, o, S, g', s', k1, k2, k3, k4, arr, k5, k6, k7, k8, k9⟩ := H.obj _ _ hb ha.ne
      unfold AR at ha
      simp only [k1] at ha
      obtain ⟨h1, rfl⟩ := ha
      have hlen := hl.1
      have hst := run_storeCells_at P B (o + a.off) elem l' 0 arr w k5 (by omega) (hl.all_one hone)
      simp only [Nat.add_zero] at hst
      refine ⟨_, hst, ?_, Kept.put k1 _⟩
      · refine H.turn hb rfl k1 (setRow_heap w B arr _ elem _ k5) (setRow_size _ _ _) (fun k hk => setRow_other w B k _ hk) rfl rfl rfl ⟨k3, k4, _, rfl, ?_, ?_, ?_, ?_⟩
        · simp; omega
        · simp; omega
        · intro hg; obtain ⟨e1, e2⟩ := k8 hg; exact ⟨e1, by simp; omega⟩
        · have e : (cs.take a.off ++ l ++ cs.drop (a.off + l.length)).length = cs.length := by simp; omega
          rw [e]
          have hal : arr.toList.length = S := by simpa using k6
          have seg := seg_take (l := arr.toList) (m := l') (o := o + a.off) (n := o + cs.length) (by omega) (by omega) o (by omega)
          rw [Nat.add_sub_cancel_left, Nat.add_sub_cancel_left] at seg
          show LR φ _ (((arr.toList.take (o + a.off) ++ l' ++ arr.toList.drop (o + a.off + l'.length)).drop o).take cs.length)
          rw [seg, hlen]
          exact ((k9.take _).append hl).append (k9.drop _)
    · cases h
  · cases h
end Go.Ev

namespace Go.Ev
open Go Go.RowKit

inductive Out where
  | val (v : Value)
  | new (ob : Ob) (mk : Nat → Value)
  | eff (v : Value) (st : St)

/-- What an operation's run must be. -/
def Out.ok (P : Program) (w0 : W0) (φ : Pm) (st : St) (w : World) (s : Sem Next) : Out → Prop
  | .val v => ∃ v' w', s.run P w = .ok (.value v') w' ∧ Same w w' ∧ VR φ v v'
  | .new ob mk => ∃ ob' v' w' S g z, s.run P w = .ok (.value v') w' ∧ w'.heap = w.heap.push ob' ∧ w'.os = w.os ∧ w'.tape = w.tape ∧ w'.output = w.output ∧
      ∀ φ' b, Le φ φ' → φ' b = .live w.heap.size 0 S g z → OR φ' ob (some ob') 0 S g z ∧ VR φ' (mk b) v'
  | .eff v st' => ∃ φ' w', HR w0 φ' st' w' ∧ Kept st φ st' φ' ∧ ((∃ v', s.run P w = .ok (.value v') w' ∧ VR φ' v v') ∨ (s.run P w = .ok .skip w' ∧ v = undef))

theorem val_of {P : Program} {w0 : W0} {φ : Pm} {st : St} {w : World} {s : Sem Value} {v v' : Value} (h : s.run P w = .ok v' w) (k : VR φ v v') :
    Out.ok P w0 φ st w (do pure (.value (← s))) (.val v) :=
  ⟨v', w, by simp [h], Same.refl w, k⟩

/-! ### memory -/
theorem ok_alloc {P : Program} {w0 : W0} {w : World} {φ : Pm} {st : St} {t : TypeId} {z : Value} (h : zeroB P t = some z) :
    Out.ok P w0 φ st w (do pure (.value (← Instr.alloc t true (.tuple #[])))) (.new (.cells z.cells.toList t false 0) fun b => .pointer (some ⟨b, 0, none⟩)) := by
  obtain ⟨hr, hp⟩ := run_zero h w
  refine ⟨.cells z.cells t, .pointer (some ⟨w.heap.size, 0, none⟩), w.alloc (.cells z.cells t), z.cells.size, false, 0, ?_, rfl, rfl, rfl, rfl, ?_⟩
  · simp [Instr.alloc, hr, newVar, newRow]
  · intro φ' b _ hb
    refine ⟨⟨rfl, rfl, z.cells, rfl, rfl, by simp, fun _ => ⟨rfl, by simp⟩, ?_⟩, .ptr ?_⟩
    · have := (plain_refl (φ := φ') 3 z hp).cells
      rw [List.drop_zero, List.take_length]
      exact this
    · unfold AR; simp [hb]

theorem ok_box {P : Program} {w0 : W0} {w : World} {φ : Pm} {st : St} {t : TypeId} {v v' : Value} (h : VR φ v v') :
    Out.ok P w0 φ st w (do pure (.value (← Instr.box t v'))) (.new (.cells v.cells.toList t false 0) fun b => .pointer (some ⟨b, 0, none⟩)) := by
  refine ⟨.cells v'.cells t, .pointer (some ⟨w.heap.size, 0, none⟩), w.alloc (.cells v'.cells t), v'.cells.size, false, 0, ?_, rfl, rfl, rfl, rfl, ?_⟩
  · simp [Instr.box, newVar, newRow]
  · intro φ' b hle hb
    have hc := (h.mono hle).cells
    have hl := hc.1
    refine ⟨⟨rfl, rfl, v'.cells, rfl, rfl, by simpa using Nat.le_of_eq hl, fun _ => ⟨rfl, by simpa using hl⟩, ?_⟩, .ptr ?_⟩
    · rw [List.drop_zero, hl, List.take_length]; exact hc
    · unfold AR; simp [hb]

theorem ok_load {P : Program} {w0 : W0} {w : World} {φ : Pm} {st : St} (H : HR w0 φ st w) {t : TypeId} {v v' u : Value} (hv : VR φ v v') (h : aload P st t v = some u) :
    Out.ok P w0 φ st w (do pure (.value (← Instr.loadAt t v'))) (.val u) := by
  have e : ∃ a, v = .pointer (some a) := by
    unfold aload at h
    split at h
    · exact ⟨_, rfl⟩
    · cases h
  obtain ⟨a, rfl⟩ := e
  cases hv with
  | ptr ha =>
    obtain ⟨u', hr, hu⟩ := run_aloadVar H ha h
    exact val_of (by simp [Instr.loadAt, Instr.sureAddr, hr]) hu
  | leaf hl => simp [leafB] at hl

def astore (P : Program) (st : St) (t : TypeId) (v x : Value) : Option St :=
  match v with
  | .pointer (some a) => match sizeB P t with
    | some n => if x.cells.size = n then aputCells st a x.cells.toList else none
    | none => none
  | _ => none
theorem ok_store {P : Program} {w0 : W0} {w : World} {φ : Pm} {st st' : St} (H : HR w0 φ st w) {t : TypeId} {v v' x x' : Value} (hv : VR φ v v') (hx : VR φ x x') (h : astore P st t v x = some st') :
    Out.ok P w0 φ st w (do Instr.storeAt t v' x'; pure .skip) (.eff undef st') := by
  have e : ∃ a, v = .pointer (some a) := by
    unfold astore at h
    split at h
    · exact ⟨_, rfl⟩
    · cases h
  obtain ⟨a, rfl⟩ := e
  cases hv with
  | leaf hl => simp [leafB] at hl
  | ptr ha =>
    simp only [astore] at h
    split at h
    · rename_i n hn
      split at h
      · rename_i hs
        obtain ⟨w', hr, h1, h2⟩ := aput_cells (P := P) H ha hx.cells h
        have hz : x'.cells.size = n := by rw [← hs]; have := hx.cells.1; simpa using this.symm
        refine ⟨φ, w', h1, h2, .inr ⟨?_, rfl⟩⟩
        simp [Instr.storeAt, Instr.sureAddr, storeVar, run_size hn, hz, hr]
      · cases h
    · cases h

/-! ### addresses -/
def afieldAddr (P : Program) (s : TypeId) (v : Value) (i : Nat) : Option Value :=
  match v, P.underlying s with
  | .pointer (some a), some (.struct fs) => match fs[i]? with
    | some f => match sizeB P f.type with
      | some n => if n = 0 then none else some (.pointer (some (a.add f.offset)))
      | none => none
    | none => none
  | _, _ => none
theorem ok_fieldAddr {P : Program} {w0 : W0} {w : World} {φ : Pm} {st : St} {s : TypeId} {i : Nat} {v v' u : Value} (hv : VR φ v v') (h : afieldAddr P s v i = some u) :
    Out.ok P w0 φ st w (do pure (.value (← Instr.fieldAt s v' i))) (.val u) := by
  unfold afieldAddr at h
  split at h
  · rename_i a fs hu
    split at h
    · rename_i f hf
      split at h
      · rename_i n hn
        split at h
        · cases h
        · rename_i h0
          cases h
          cases hv with
          | leaf hl => simp [leafB] at hl
          | ptr ha =>
            refine val_of ?_ (.ptr (ha.add _))
            simp [Instr.fieldAt, run_underlying hu, hf, Instr.sureAddr, fieldPlace, run_size hn, h0]
      · cases h
    · cases h
  · cases h

def aindexAddr (P : Program) (t : TypeId) (v i : Value) : Option Value :=
  match P.underlying t, v, i with
  | some (.slice e), .slice (some a) len _, .int _ n => match sizeB P e with
    | some s => if Int.ble' 0 n && Int.blt' n len then some (.pointer (some (a.add (n.toNat * s)))) else none
    | none => none
  | some (.array len e), .pointer (some a), .int _ n => match sizeB P e with
    | some s => if Int.ble' 0 n && Int.blt' n len then some (.pointer (some (a.add (n.toNat * s)))) else none
    | none => none
  | _, _, _ => none
where
  Int.ble' (a b : Int) : Bool := decide (a ≤ b)
  Int.blt' (a b : Int) : Bool := decide (a < b)
theorem ok_indexAddr {P : Program} {w0 : W0} {w : World} {φ : Pm} {st : St} {t : TypeId} {v v' i i' u : Value} (hv : VR φ v v') (hi : VR φ i i') (h : aindexAddr P t v i = some u) :
    Out.ok P w0 φ st w (do pure (.value (← Instr.indexAt t v' i'))) (.val u) := by
  unfold aindexAddr at h
  split at h
  · rename_i e a len c k n hu
    split at h
    · rename_i s hs
      split at h
      · rename_i hb
        simp only [aindexAddr.Int.ble', aindexAddr.Int.blt', Bool.and_eq_true, decide_eq_true_eq] at hb
        cases h
        cases hi with
        | leaf =>
          cases hv with
          | leaf hl => simp [leafB] at hl
          | slice ha _ =>
            refine val_of ?_ (.ptr (ha.add _))
            simp [Instr.indexAt, run_underlying hu, asIntOf, hb, run_size hs]
      · cases h
    · cases h
  · rename_i len e a k n hu
    split at h
    · rename_i s hs
      split at h
      · rename_i hb
        simp only [aindexAddr.Int.ble', aindexAddr.Int.blt', Bool.and_eq_true, decide_eq_true_eq] at hb
        cases h
        cases hi with
        | leaf =>
          cases hv with
          | leaf hl => simp [leafB] at hl
          | ptr ha =>
            refine val_of ?_ (.ptr (ha.add _))
            simp [Instr.indexAt, run_underlying hu, asIntOf, Instr.sureAddr, hb, run_size hs]
      · cases h
    · cases h
  · cases h

/-! ### parts of values -/
def apart (P : Program) (t : TypeId) (cs : List Value) (off : Nat) : Option Value :=
  match aggB P t with
  | some true => match sizeB P t with
    | some n => some (.agg ⟨(cs.drop off).take n⟩)
    | none => none
  | some false => cs[off]?
  | none => none
theorem run_apart {P : Program} {w : World} {φ : Pm} {t : TypeId} {cs cs' : List Value} (hc : LR φ cs cs') {off : Nat} {u : Value} (h : apart P t cs off = some u) :
    ∃ u', (part t ⟨cs'⟩ off).run P w = .ok u' w ∧ VR φ u u' := by
  unfold apart at h
  split at h
  · rename_i hg
    split at h
    · rename_i n hn
      cases h
      refine ⟨.agg ⟨(cs'.drop off).take n⟩, ?_, VR.agg_iff.2 ((hc.drop _).take _)⟩
      simp only [part, Sem.run_bind, run_agg hg, Result.andThen_ok, if_true, run_size hn, Sem.run_pure]
      congr 2
      apply Array.ext'
      simp [List.extract_eq_take_drop]
    · cases h
  · rename_i hg
    obtain ⟨v', hv, hr⟩ := hc.get h
    refine ⟨v', ?_, hr⟩
    simp [part, run_agg hg, hv]
  · cases h

def afield (P : Program) (t : TypeId) (v : Value) (i : Nat) : Option Value :=
  match v, P.underlying t with
  | .agg cs, some (.struct fs) => match fs[i]? with
    | some f => apart P f.type cs.toList f.offset
    | none => none
  | _, _ => none
theorem ok_field {P : Program} {w0 : W0} {w : World} {φ : Pm} {st : St} {t : TypeId} {i : Nat} {v v' u : Value} (hv : VR φ v v') (h : afield P t v i = some u) :
    Out.ok P w0 φ st w (do pure (.value (← Instr.field t v' i))) (.val u) := by
  unfold afield at h
  split at h
  · rename_i cs fs hu
    split at h
    · rename_i f hf
      cases hv with
      | leaf hl => simp [leafB] at hl
      | @agg _ cs' hs hh =>
        have hc : LR φ cs.toList cs'.toList := ⟨by simpa using hs, fun i v v' a b => hh i v v' (by simpa using a) (by simpa using b)⟩
        obtain ⟨u', hr, hu'⟩ := run_apart (P := P) (w := w) hc h
        exact val_of (by simp [Instr.field, run_underlying hu, hf, asAgg]; exact hr) hu'
    · cases h
  · cases h

def aindex (P : Program) (t : TypeId) (v i : Value) : Option Value :=
  match P.underlying t, v, i with
  | some (.array len e), .agg cs, .int _ n => match sizeB P e with
    | some s => if decide (0 ≤ n) && decide (n < len) then apart P e cs.toList (n.toNat * s) else none
    | none => none
  | some .string, .string s, .int _ n => if isMark s then none else if decide (0 ≤ n) then match s.data.toList[n.toNat]? with
    | some b => some (.int .u8 b.toNat)
    | none => none
    else none
  | _, _, _ => none
theorem ok_index {P : Program} {w0 : W0} {w : World} {φ : Pm} {st : St} {t : TypeId} {v v' i i' u : Value} (hv : VR φ v v') (hi : VR φ i i') (h : aindex P t v i = some u) :
    Out.ok P w0 φ st w (do pure (.value (← Instr.index t v' i'))) (.val u) := by
  unfold aindex at h
  split at h
  · rename_i len e cs k n hu
    split at h
    · rename_i s hs
      split at h
      · rename_i hb
        simp only [Bool.and_eq_true, decide_eq_true_eq] at hb
        cases hi with
        | leaf =>
          cases hv with
          | leaf hl => simp [leafB] at hl
          | @agg _ cs' hs' hh =>
            have hc : LR φ cs.toList cs'.toList := ⟨by simpa using hs', fun i v v' a b => hh i v v' (by simpa using a) (by simpa using b)⟩
            obtain ⟨u', hr, hu'⟩ := run_apart (P := P) (w := w) hc h
            exact val_of (by simp [Instr.index, run_underlying hu, asIntOf, hb, run_size hs]; exact hr) hu'
      · cases h
    · cases h
  · rename_i s k n hu
    split at h
    · cases h
    rename_i hnm
    split at h
    · rename_i h0
      have h0 : 0 ≤ n := by simpa using h0
      split at h
      · rename_i b hb
        cases h
        cases hi with
        | leaf =>
          cases hv with
          | opq hm => exact absurd hm hnm
          | leaf _ =>
            have hlt : n.toNat < s.size := by
              rcases Nat.lt_or_ge n.toNat s.data.toList.length with h' | h'
              · simpa using h'
              · rw [List.getElem?_eq_none h'] at hb; cases hb
            have hg : s[n.toNat]? = some b := by
              rw [ByteArray.getElem?_lt' s _ hlt]
              have : s.data.toList[n.toNat]? = some s[n.toNat] := by
                rw [Array.getElem?_toList]
                exact Array.getElem?_eq_getElem hlt
              rw [this] at hb
              exact hb
            exact val_of (by simp [Instr.index, run_underlying hu, asIntOf, h0, hg]) (.leaf rfl)
      · cases h
    · cases h
  · cases h

def aextract (v : Value) (i : Nat) : Option Value := match v with | .tuple vs => vs.toList[i]? | _ => none
theorem ok_extract {P : Program} {w0 : W0} {w : World} {φ : Pm} {st : St} {i : Nat} {v v' u : Value} (hv : VR φ v v') (h : aextract v i = some u) :
    Out.ok P w0 φ st w (do pure (.value (← Instr.extract v' i))) (.val u) := by
  unfold aextract at h
  split at h
  · rename_i vs
    cases hv with
    | leaf hl => simp [leafB] at hl
    | @tuple _ vs' hs hh =>
      have hc : LR φ vs.toList vs'.toList := ⟨by simpa using hs, fun i v v' a b => hh i v v' (by simpa using a) (by simpa using b)⟩
      obtain ⟨u', h1, h2⟩ := hc.get h
      have h1' : vs'[i]? = some u' := by simpa using h1
      exact val_of (by simp [Instr.extract, h1']) h2
  · cases h

def aiface (P : Program) (t : TypeId) (v : Value) : Option Value := match P.underlying t with | some (.interface _) => none | some _ => some (.iface t v) | none => none
theorem ok_iface {P : Program} {w0 : W0} {w : World} {φ : Pm} {st : St} {t : TypeId} {v v' u : Value} (hv : VR φ v v') (h : aiface P t v = some u) :
    Out.ok P w0 φ st w (do pure (.value (← Instr.makeInterface t v'))) (.val u) := by
  unfold aiface at h
  split at h
  · cases h
  · rename_i d hd hu
    cases h
    refine val_of ?_ (.iface hv)
    cases d <;> first | (simp [Instr.makeInterface, run_underlying hu]; done) | exact absurd rfl (hd _)
  · cases h

/-! ### lengths -/
def alen (st : St) (P : Program) (t : TypeId) (v : Value) : Option Value :=
  match P.underlying t, v with
  | some .string, .string s => if isMark s then none else some (goInt s.data.toList.length)
  | some (.slice _), .slice _ n _ => some (goInt n)
  | some (.array n _), _ => some (goInt n)
  | some (.map _ _), .map none => some (goInt 0)
  | some (.map _ _), .map (some r) => match st.heap.get r with
    | some (.map es _) => some (goInt es.length)
    | _ => none
  | _, _ => none
theorem run_alen {P : Program} {w0 : W0} {w : World} {φ : Pm} {st : St} (H : HR w0 φ st w) {t ty : TypeId} {v v' u : Value} (hv : VR φ v v') (h : alen st P t v = some u) :
    (Builtin.len_ #[t] ty #[v']).run P w = .ok u w ∧ leafB u = true := by
  unfold alen at h
  split at h
  · rename_i s hu
    split at h
    · cases h
    rename_i hnm
    cases h
    cases hv with
    | opq hm => exact absurd hm hnm
    | leaf => exact ⟨by simp [Builtin.len_, run_underlying hu], rfl⟩
  · rename_i e b n c hu
    cases h
    cases hv with
    | leaf => exact ⟨by simp [Builtin.len_, run_underlying hu], rfl⟩
    | slice => exact ⟨by simp [Builtin.len_, run_underlying hu], rfl⟩
  · rename_i n e hu
    cases h
    exact ⟨by simp [Builtin.len_, run_underlying hu], rfl⟩
  · rename_i k e hu
    cases h
    cases hv with
    | leaf => exact ⟨by simp [Builtin.len_, run_underlying hu], rfl⟩
  · rename_i k e r hu
    split at h
    · rename_i es clock hr
      cases h
      cases hv with
      | leaf hl => simp [leafB] at hl
      | map hm =>
        obtain ⟨B, o, S, g, s, k1, k2, es', k3, k4, _⟩ := H.obj _ _ hr hm.ne
        unfold MR at hm
        simp only [k1] at hm
        subst hm
        refine ⟨?_, rfl⟩
        simp [Builtin.len_, run_underlying hu, getObj, Sem.run, k3, k4]
    · cases h
  · cases h
end Go.Ev

