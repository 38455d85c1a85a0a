/-
  The sources of tokens with a space between each two: of the program and of the document's own answer.
-/
import Derived.Test.YtjiihfdbdbhhaaaTokSh
namespace Go.Proofs.Ytjiihfdbdbhhaaa
open Go.RowKit T

def Small (ks : List (ByteArray × ByteArray × Int)) : Prop := ks.length ≤ 300 ∧ ∀ t ∈ ks, t.2.1.size ≤ 400
def srcOf (t : ByteArray × ByteArray × Int) : List UInt8 := textL t.1.toList t.2.1
def okOf (t : ByteArray × ByteArray × Int) : Bool := validB t.1.toList t.2.1
def joinL : List (ByteArray × ByteArray × Int) → List UInt8
  | [] => []
  | t :: ts => srcOf t ++ ts.flatMap (fun u => 32 :: srcOf u)
theorem joinL_snoc (ks : List (ByteArray × ByteArray × Int)) (t : ByteArray × ByteArray × Int) : joinL (ks ++ [t]) = joinL ks ++ (if ks = [] then [] else [32]) ++ srcOf t := by
  cases ks with
  | nil => simp [joinL]
  | cons a ks => simp [joinL]
theorem joinL_step {ks : List (ByteArray × ByteArray × Int)} {k : Nat} (h : k < ks.length) : joinL (ks.take (k + 1)) = joinL (ks.take k) ++ (if k = 0 then [] else [32]) ++ srcOf ks[k] := by
  rw [List.take_succ_eq_append_getElem h, joinL_snoc]
  congr 2
  cases k with
  | zero => simp
  | succ k =>
    have : ks.take (k + 1) ≠ [] := by
      intro e
      rcases List.take_eq_nil_iff.1 e with h' | h'
      · omega
      · subst h'; cases h
    simp [this]
theorem charL_le (c : UInt8) : (charL c).length ≤ 2 := by unfold charL; repeat' split
                                                          all_goals simp
theorem textL_le (k : List UInt8) (s : ByteArray) : (textL k s).length ≤ 2 * s.size + 3 := by
  have hl : s.data.toList.length = s.size := by simp
  have e1 := encP_le 39 s.data.toList
  have e2 := encP_le 34 s.data.toList
  have e3 := charL_le (s.data.toList.headD 0)
  unfold textL
  split
  · unfold quoteL
    split
    · omega
    · simp only [encL, List.length_append, List.length_cons, List.length_nil]; omega
  · split
    · simp only [encL, List.length_append, List.length_cons, List.length_nil]; omega
    · split
      · simp only [List.length_cons]; omega
      · omega
theorem joinL_le {ks : List (ByteArray × ByteArray × Int)} (h : Small ks) (k : Nat) (hk : k ≤ ks.length) : (joinL (ks.take k)).length ≤ 804 * k := by
  induction k with
  | zero => simp [joinL]
  | succ k ih =>
    have ih := ih (by omega)
    rw [joinL_step (by omega)]
    have h1 := textL_le ks[k].1.toList ks[k].2.1
    have h2 := h.2 ks[k] (List.getElem_mem _)
    simp only [List.length_append, srcOf]
    split <;> simp <;> omega
/-- what Join hands back -/
def joinV (ks : List (ByteArray × ByteArray × Int)) : Value := .tuple #[.string ⟨(if ks.all okOf = true then joinL ks else []).toArray⟩, .int .i64 (if ks.all okOf = true then 0 else 10)]
theorem textV_ok {t : ByteArray × ByteArray × Int} (h : okOf t = true) : textV t.1 t.2.1 = .tuple #[.string ⟨(srcOf t).toArray⟩, .int .i64 0] := by
  unfold textV srcOf
  rw [show validB t.1.toList t.2.1 = true from h]; rfl
theorem textV_no {t : ByteArray × ByteArray × Int} (h : okOf t = false) : textV t.1 t.2.1 = .tuple #[.string ⟨#[]⟩, .int .i64 10] := by
  unfold textV
  rw [show validB t.1.toList t.2.1 = false from h]; rfl
theorem bc_app (a b : List UInt8) : Lib.byteCells a ++ Lib.byteCells b = Lib.byteCells (a ++ b) := by simp [Lib.byteCells]
theorem bc_len (a : List UInt8) : (Lib.byteCells a).length = a.length := by simp [Lib.byteCells]

theorem bldAt_below {T e : TypeId} {B b : Nat} {p : Value} {bs : List Value} {w w' : World} (h : Lib.BuilderAt T e B b p bs w) (hb : Below w.heap.size w w') : Lib.BuilderAt T e B b p bs w' := by
  have hl := h.lt
  obtain ⟨h1, v, h2, h3, h4⟩ := h
  exact ⟨h1, v, (hb.block b hl).trans h2, own_below h3 hb, h4⟩
theorem bld_below {T e : TypeId} {B b : Nat} {bs : List Value} {w w' : World} (h : Lib.IsBuilder T e B b bs w) (hb : Below w.heap.size w w') : Lib.IsBuilder T e B b bs w' := by
  rcases h with h | h
  · exact .inl (bldAt_below h hb)
  · exact .inr (bldAt_below h hb)
theorem bld_alloc {T e : TypeId} {B b : Nat} {bs : List Value} {w : World} (h : Lib.IsBuilder T e B b bs w) (o : Obj) : Lib.IsBuilder T e B b bs (w.alloc o) :=
  bld_below h ((Below.refl _ _).alloc (Nat.le_refl _) o)

set_option maxHeartbeats 4000000 in
theorem Join_any (A : Option Addr) (n c : Nat) (ks : List (ByteArray × ByteArray × Int)) (w : World) (hn : ks.length = n) (hsm : Small ks) (h : ArgTk w A ks) :
    Calls Try.prog 20 #[.slice A n c] w fun e w' => e = .returned (joinV ks) ∧ Below w.heap.size w w' := by
  have hn3 : n ≤ 300 := by rw [← hn]; exact hsm.1
  have HN := Lib.hid hn
  clear hn
  have hz0 := Lib.fresh_isBuilder 54 5 w
  go_enter Try.func20, Try.ntmps20
  go_wp2_with fail
  go_loopw [11] (fun i wr => ∃ k : Nat, k ≤ n ∧ i = .int .i64 k ∧ (ks.take k).all okOf = true ∧ Lib.IsBuilder 54 5 w.heap.size w.heap.size (Lib.byteCells (joinL (ks.take k))) wr ∧ Below w.heap.size w wr) (fun i _ => n - (intOf i).toNat)
  case atStart => exact ⟨0, Nat.zero_le _, rfl, rfl, by simpa [joinL, Lib.byteCells] using hz0, (Below.refl _ _).alloc (Nat.le_refl _) _⟩
  case round =>
    obtain ⟨k, hk, rfl, hall, hB, hb⟩ := hrel
    have HA := Lib.hid hall
    have HB := Lib.hid hB
    have hsz := hb.size
    clear hall hB hz0
    by_cases hlt : k < n
    · obtain ⟨b, off, rfl, hab, hc⟩ := h (by rw [HN.out]; omega)
      have hlk : k < ks.length := by rw [HN.out]; exact hlt
      obtain ⟨c0, c1, c2⟩ := hc k hlk
      have c0 := (hb.cell (p := ⟨b, off + k * 3, none⟩) hab).trans c0
      have c1 := (hb.cell (p := ⟨b, off + k * 3 + 1, none⟩) hab).trans c1
      have c2 := (hb.cell (p := ⟨b, off + k * 3 + 2, none⟩) hab).trans c2
      have HK := all_take1 (p := okOf) hlk
      have HF := fun (hx : okOf ks[k] = false) => all_bad1 (p := okOf) hlk hx
      have HJ := joinL_step hlk
      have hjl := joinL_le hsm k (by omega)
      have h400 := hsm.2 ks[k] (List.getElem_mem _)
      have hsl := textL_le ks[k].1.toList ks[k].2.1
      have TC := fun wx => Text_any ks[k].1 ks[k].2.1 ks[k].2.2 wx (by omega)
      clear hc
      generalize ks[k] = tk at *
      have HK := Lib.hid HK
      have HJ := Lib.hid HJ
      clear hlk
      rcases hv : okOf tk with _ | _
      · have F := Lib.hid (show joinV ks = .tuple #[.string ⟨#[]⟩, .int .i64 10] by
          unfold joinV; rw [HF hv]; rfl)
        rw [textV_no hv] at TC
        have TC := Lib.hid TC
        clear HF hv
        go_wp2_with fail
        refine (TC.out _).mono ?_
        rintro e w1 ⟨rfl, hb1⟩
        go_wp2_with fail
        go_ret2
        exact ⟨by rw [F.out]; rfl, (hb.alloc hsz _).trans (hb1.mono (by simp; omega))⟩
      · rw [textV_ok hv] at TC
        have TC := Lib.hid TC
        have HV := Lib.hid hv
        have hsrc : (srcOf tk).length ≤ 803 := by unfold srcOf; omega
        have hsl2 : ((⟨(srcOf tk).toArray⟩ : ByteArray)).size ≤ 803 := by show (srcOf tk).toArray.size ≤ _; simpa using hsrc
        have SC := Lib.hid (show Lib.strCells ⟨(srcOf tk).toArray⟩ = Lib.byteCells (srcOf tk) by simp [Lib.strCells, Lib.byteCells])
        have BL := bc_len (joinL (ks.take k))
        clear HF hv hsl h400
        generalize srcOf tk = sx at *
        rcases Nat.eq_zero_or_pos k with h0 | h0
        · have z : ¬ (0 < (k : Int)) := by omega
          have HJ0 := HJ.out
          rw [if_pos h0, List.append_nil] at HJ0
          have HJ0 := Lib.hid HJ0
          clear h0
          go_wp2_with fail
          refine (TC.out _).mono ?_
          rintro e w1 ⟨rfl, hb1⟩
          have hbx := (hb.alloc hsz (.cells #[.string tk.1, .string tk.2.1, .int .i64 tk.2.2] 33)).trans (hb1.mono (by simp; omega))
          have HB1 := bld_below (bld_alloc HB.out _) hb1
          clear hb1
          go_wp2_with fail
          refine (bldString w.heap.size w.heap.size _ _ _ HB1 (by omega) hbx.size).mono ?_
          rintro e w2 ⟨rfl, h2, hb2⟩
          go_wp2_with fail
          go_roundw
          case rel => exact ⟨k + 1, by omega, by go_num, by rw [HK.out, HA.out, HV.out]; rfl, .inr (by rw [HJ0.out, ← bc_app, ← SC.out]; exact h2), hbx.trans hb2⟩
          case measure => simp [intOf]; omega
        · have z : 0 < (k : Int) := by omega
          have HJ0 := HJ.out
          rw [if_neg (by omega)] at HJ0
          have HJ0 := Lib.hid HJ0
          go_wp2_with fail
          refine (TC.out _).mono ?_
          rintro e w1 ⟨rfl, hb1⟩
          have hbx := (hb.alloc hsz (.cells #[.string tk.1, .string tk.2.1, .int .i64 tk.2.2] 33)).trans (hb1.mono (by simp; omega))
          have HB1 := bld_below (bld_alloc HB.out _) hb1
          clear hb1
          go_wp2_with fail
          refine (bldByte w.heap.size w.heap.size _ 32 _ HB1 (by omega) hbx.size).mono ?_
          rintro e w2 ⟨rfl, h2, hb2⟩
          have hby := hbx.trans hb2
          go_wp2_with fail
          refine (bldString w.heap.size w.heap.size _ _ _ (.inr h2) (by simp only [List.length_append, List.length_cons, List.length_nil]; omega) hby.size).mono ?_
          rintro e w3 ⟨rfl, h3, hb3⟩
          go_wp2_with fail
          go_roundw
          case rel => exact ⟨k + 1, by omega, by go_num, by rw [HK.out, HA.out, HV.out]; rfl, .inr (by rw [HJ0.out, ← bc_app, ← bc_app, ← SC.out]; exact h3), hby.trans hb3⟩
          case measure => simp [intOf]; omega
    · have ht : ks.take k = ks := List.take_of_length_le (by rw [HN.out]; omega)
      have hA2 := HA.out
      rw [ht] at hA2
      have F := Lib.hid (show joinV ks = .tuple #[.string ⟨(joinL ks).toArray⟩, .int .i64 0] by
        unfold joinV; rw [hA2]; rfl)
      have HB2 := HB.out
      rw [ht] at HB2
      have HB2 := Lib.hid HB2
      clear ht hA2
      go_wp2_with fail
      refine (Try.Builder_String_any w.heap.size w.heap.size _ _ HB2.out hsz).mono ?_
      rintro e w3 ⟨rfl, hb3⟩
      go_wp2_with fail
      go_ret2
      exact ⟨by rw [F.out]; rfl, hb.trans hb3⟩
end Go.Proofs.Ytjiihfdbdbhhaaa
