/-
  Bounds brought to normal form: the program's.
-/
import Derived.Deep.RegionHeld
import Derived.Test.YtcbjkclajkjicaaGreatDoorFzQ
namespace Go.Proofs.YtcbjkclajkjicaaGreatDoor
set_option linter.unusedSimpArgs false
open Go Go.RowKit Go.Shelf Go.Ev

def nmn (lo : Nat) (mn : Int) : Int := max mn (ones lo)
def nmx (hi : Nat) (mx : Int) : Int := min mx (ones hi)
def okN (lo hi : Nat) (mn mx : Int) : Bool := decide (sub64 lo hi = 0) && decide (nmn lo mn ≤ nmx hi mx)
def nlo (lo hi : Nat) (mn : Int) : Nat := if nmn lo mn = ones hi then hi else lo
def nhi (lo hi : Nat) (mn mx : Int) : Nat := if nmn lo mn = ones hi then hi else if nmx hi mx = ones lo then lo else hi
/-- what normalizing leaves -/
def NormOk (g lo hi : Nat) (mn mx : Int) (w : World) (e : Ending) (w' : World) : Prop := e = .returned (.bool (okN lo hi mn mx)) ∧ Only g w w' ∧ (okN lo hi mn mx = true → Bd w' g (nlo lo hi mn) (nhi lo hi mn mx) (nmn lo mn) (nmx hi mx))
set_option maxRecDepth 100000 in
set_option maxHeartbeats 8000000 in
theorem normalize_any (g lo hi : Nat) (mn mx : Int) (w : World) (h : Bd w g lo hi mn mx) (h1 : lo < 18446744073709551616) (h2 : hi < 18446744073709551616) :
    Calls Tryz.prog 27 #[.pointer (some ⟨g, 0, none⟩)] w (NormOk g lo hi mn mx w) := by
  obtain ⟨Q, hQ⟩ : ∃ Q, NormOk g lo hi mn mx w = Q := ⟨_, rfl⟩
  rw [hQ]
  have QF := Lib.hid (show ∀ e w', (e = .returned (.bool (decide (sub64 lo hi = 0) && decide (max mn (ones lo) ≤ min mx (ones hi)))) ∧ Only g w w' ∧ ((decide (sub64 lo hi = 0) && decide (max mn (ones lo) ≤ min mx (ones hi))) = true → Bd w' g (if max mn (ones lo) = ones hi then hi else lo) (if max mn (ones lo) = ones hi then hi else if min mx (ones hi) = ones lo then lo else hi) (max mn (ones lo)) (min mx (ones hi)))) → Q e w' from fun e w' k => by rw [← hQ]; exact k)
  have SL := Lib.hid (fun w1 => fsize_any lo w1 h1)
  have SH := Lib.hid (fun w1 => fsize_any hi w1 h2)
  have IN := Lib.hid (fun w1 => isIn_any lo hi w1 h1 h2)
  have LE := Lib.hid (fun w1 (h : Bd w1 g lo hi mn mx) => atLeast_any g lo hi mn mx (ones lo : Nat) w1 h)
  have MO := Lib.hid (fun w1 m (h : Bd w1 g lo hi m mx) => atMost_any g lo hi m mx (ones hi : Nat) w1 h)
  have HB := Lib.hid h
  clear hQ h h1 h2
  go_enter Tryz.func27, Tryz.ntmps27
  go_wp2_with fail
  have FA := Lib.hid (fun (wx : World) (h : Bd wx g lo hi mn mx) => (show (fun (wx : World) => wx.cell? ⟨g, 0, none⟩ = some (.int .u64 lo) ∧ wx.cell? ⟨g, 1, none⟩ = some (.int .u64 hi) ∧ wx.cell? ⟨g, 2, none⟩ = some (.int .i64 mn) ∧ wx.cell? ⟨g, 3, none⟩ = some (.int .i64 mx)) wx from ⟨h.facts.1, h.facts.2.1, h.facts.2.2.1, h.facts.2.2.2.1⟩))
  have BV := Lib.hid (show Bd w.drew g lo hi mn mx from HB.out)
  have OV := Lib.hid (show Only g w w.drew from (Only.refl g w).drew)
  have S0 := FA.out _ BV.out
  refine wp_region_held_drew (S := fun (wx : World) => wx.cell? ⟨g, 0, none⟩ = some (.int .u64 lo) ∧ wx.cell? ⟨g, 1, none⟩ = some (.int .u64 hi) ∧ wx.cell? ⟨g, 2, none⟩ = some (.int .i64 mn) ∧ wx.cell? ⟨g, 3, none⟩ = some (.int .i64 mx)) (by kernel_rfl) S0 (fun hHeld => ?_)
  generalize w.drew = V at *
  refine wpAnyH_take (i := 0) (oi := { dst := some 5, op := Op.move (Operand.tmp 0), type := 81, pos := "bounds.go:61", after := #[], guard := none }) (v := ?vn1k0) rfl (by kernel_rfl) (by kernel_rfl) (by kernel_rfl) (fun _ _ _ h => h) (Or.inl ⟨by kernel_rfl, ?yn1k0⟩) (by assumption) ?rn1k0
  case yn1k0 => intro w hSw; (try dsimp only at hSw); go_simp; try with_reducible rfl
  try simp only [Act.put, List.setIfInBounds_toArray, List.set_cons_zero, List.set_cons_succ]
  refine wpAnyH_take (i := 1) (oi := { dst := some 6, op := Op.nilCheck (Operand.tmp 5), type := 0, pos := "bounds.go:61", after := #[{ on := 0, ground := Ground.data }], guard := none }) (v := ?vn2k1) rfl (by kernel_rfl) (by kernel_rfl) (by kernel_rfl) (fun _ _ _ h => h) (Or.inl ⟨by kernel_rfl, ?yn2k1⟩) (by assumption) ?rn2k1
  case yn2k1 => intro w hSw; (try dsimp only at hSw); go_simp; try with_reducible rfl
  try simp only [Act.put, List.setIfInBounds_toArray, List.set_cons_zero, List.set_cons_succ]
  refine wpAnyH_take (i := 2) (oi := { dst := some 7, op := Op.fieldAddr 58 (Operand.tmp 6) 0, type := 0, pos := "bounds.go:61", after := #[{ on := 1, ground := Ground.data }], guard := none }) (v := ?vn3k2) rfl (by kernel_rfl) (by kernel_rfl) (by kernel_rfl) (fun _ _ _ h => h) (Or.inl ⟨by kernel_rfl, ?yn3k2⟩) (by assumption) ?rn3k2
  case yn3k2 => intro w hSw; (try dsimp only at hSw); go_simp; try with_reducible rfl
  try simp only [Act.put, List.setIfInBounds_toArray, List.set_cons_zero, List.set_cons_succ]
  refine wpAnyH_take (i := 3) (oi := { dst := some 8, op := Op.load 56 (Operand.tmp 7), type := 56, pos := "bounds.go:61", after := #[{ on := 2, ground := Ground.data }], guard := none }) (v := ?vn4k3) rfl (by kernel_rfl) (by kernel_rfl) (by kernel_rfl) (fun _ _ _ h => h) (Or.inl ⟨by kernel_rfl, ?yn4k3⟩) (by assumption) ?rn4k3
  case yn4k3 => intro w hSw; (try dsimp only at hSw); go_simp; try with_reducible rfl
  try simp only [Act.put, List.setIfInBounds_toArray, List.set_cons_zero, List.set_cons_succ]
  refine wpAnyH_take (i := 5) (oi := { dst := some 10, op := Op.move (Operand.tmp 0), type := 81, pos := "bounds.go:61", after := #[], guard := none }) (v := ?vn5k5) rfl (by kernel_rfl) (by kernel_rfl) (by kernel_rfl) (fun _ _ _ h => h) (Or.inl ⟨by kernel_rfl, ?yn5k5⟩) (by assumption) ?rn5k5
  case yn5k5 => intro w hSw; (try dsimp only at hSw); go_simp; try with_reducible rfl
  try simp only [Act.put, List.setIfInBounds_toArray, List.set_cons_zero, List.set_cons_succ]
  refine wpAnyH_take (i := 6) (oi := { dst := some 11, op := Op.nilCheck (Operand.tmp 10), type := 0, pos := "bounds.go:61", after := #[{ on := 5, ground := Ground.data }], guard := none }) (v := ?vn6k6) rfl (by kernel_rfl) (by kernel_rfl) (by kernel_rfl) (fun _ _ _ h => h) (Or.inl ⟨by kernel_rfl, ?yn6k6⟩) (by assumption) ?rn6k6
  case yn6k6 => intro w hSw; (try dsimp only at hSw); go_simp; try with_reducible rfl
  try simp only [Act.put, List.setIfInBounds_toArray, List.set_cons_zero, List.set_cons_succ]
  refine wpAnyH_take (i := 7) (oi := { dst := some 12, op := Op.fieldAddr 58 (Operand.tmp 11) 1, type := 0, pos := "bounds.go:61", after := #[{ on := 6, ground := Ground.data }], guard := none }) (v := ?vn7k7) rfl (by kernel_rfl) (by kernel_rfl) (by kernel_rfl) (fun _ _ _ h => h) (Or.inl ⟨by kernel_rfl, ?yn7k7⟩) (by assumption) ?rn7k7
  case yn7k7 => intro w hSw; (try dsimp only at hSw); go_simp; try with_reducible rfl
  try simp only [Act.put, List.setIfInBounds_toArray, List.set_cons_zero, List.set_cons_succ]
  refine wpAnyH_take (i := 8) (oi := { dst := some 13, op := Op.load 56 (Operand.tmp 12), type := 56, pos := "bounds.go:61", after := #[{ on := 7, ground := Ground.data }], guard := none }) (v := ?vn8k8) rfl (by kernel_rfl) (by kernel_rfl) (by kernel_rfl) (fun _ _ _ h => h) (Or.inl ⟨by kernel_rfl, ?yn8k8⟩) (by assumption) ?rn8k8
  case yn8k8 => intro w hSw; (try dsimp only at hSw); go_simp; try with_reducible rfl
  try simp only [Act.put, List.setIfInBounds_toArray, List.set_cons_zero, List.set_cons_succ]
  refine wpAnyH_ready (rs := [4]) (by kernel_rfl) (by simp) (AllReadyH.cons (o := { dst := some 9, op := Op.call { callee := Callee.value (Operand.func 46), args := #[Operand.tmp 8], argTypes := #[56] }, type := 3, pos := "bounds.go:61", after := #[{ on := 3, ground := Ground.data }], guard := none }) rfl (fun K hK => ?_) AllReadyH.nil)
  go_simp
  refine (SL.out _).mono ?_
  rintro e x4 ⟨rfl, rfl⟩
  clear hHeld
  refine hK.out _ _ (by assumption) (fun hHeld => ?_)
  clear hK K
  try simp only [Act.put, List.setIfInBounds_toArray, List.set_cons_zero, List.set_cons_succ]
  refine wpAnyH_ready (rs := [9]) (by kernel_rfl) (by simp) (AllReadyH.cons (o := { dst := some 14, op := Op.call { callee := Callee.value (Operand.func 46), args := #[Operand.tmp 13], argTypes := #[56] }, type := 3, pos := "bounds.go:61", after := #[{ on := 8, ground := Ground.data }, { on := 4, ground := Ground.chain }], guard := none }) rfl (fun K hK => ?_) AllReadyH.nil)
  go_simp
  refine (SH.out _).mono ?_
  rintro e x9 ⟨rfl, rfl⟩
  clear hHeld
  refine hK.out _ _ (by assumption) (fun hHeld => ?_)
  clear hK K
  try simp only [Act.put, List.setIfInBounds_toArray, List.set_cons_zero, List.set_cons_succ]
  refine wpAnyH_take (i := 10) (oi := { dst := some 3, op := Op.assign (Operand.tmp 9), type := 3, pos := "bounds.go:61", after := #[{ on := 4, ground := Ground.data }, { on := 9, ground := Ground.chain }, { on := 0, ground := Ground.phase }, { on := 1, ground := Ground.phase }, { on := 2, ground := Ground.phase }, { on := 3, ground := Ground.phase }, { on := 4, ground := Ground.phase }, { on := 5, ground := Ground.textOnly Departure.lateStores }, { on := 6, ground := Ground.textOnly Departure.lateStores }, { on := 7, ground := Ground.textOnly Departure.lateStores }, { on := 8, ground := Ground.textOnly Departure.lateStores }, { on := 9, ground := Ground.textOnly Departure.lateStoresUnsure }], guard := none }) (v := ?vn9k10) rfl (by kernel_rfl) (by kernel_rfl) (by kernel_rfl) (fun _ _ _ h => h) (Or.inl ⟨by kernel_rfl, ?yn9k10⟩) (by assumption) ?rn9k10
  case yn9k10 => intro w hSw; (try dsimp only at hSw); go_simp; try with_reducible rfl
  try simp only [Act.put, List.setIfInBounds_toArray, List.set_cons_zero, List.set_cons_succ]
  refine wpAnyH_take (i := 11) (oi := { dst := some 4, op := Op.assign (Operand.tmp 14), type := 3, pos := "bounds.go:61", after := #[{ on := 9, ground := Ground.data }, { on := 10, ground := Ground.chain }, { on := 0, ground := Ground.phase }, { on := 1, ground := Ground.phase }, { on := 2, ground := Ground.phase }, { on := 3, ground := Ground.phase }, { on := 4, ground := Ground.phase }, { on := 5, ground := Ground.phase }, { on := 6, ground := Ground.phase }, { on := 7, ground := Ground.phase }, { on := 8, ground := Ground.phase }, { on := 9, ground := Ground.phase }, { on := 10, ground := Ground.phase }], guard := none }) (v := ?vn10k11) rfl (by kernel_rfl) (by kernel_rfl) (by kernel_rfl) (fun _ _ _ h => h) (Or.inl ⟨by kernel_rfl, ?yn10k11⟩) (by assumption) ?rn10k11
  case yn10k11 => intro w hSw; (try dsimp only at hSw); go_simp; try with_reducible rfl
  try simp only [Act.put, List.setIfInBounds_toArray, List.set_cons_zero, List.set_cons_succ]
  refine wpAnyH_done (by kernel_rfl) ?_ _
  clear S0
  go_wp2_with (first | (go_at_call 47; refine (LE.out _ BV.out).mono ?_; rintro e y1 ⟨rfl, b1, o1⟩; have B1 := Lib.hid b1; have O1 := Lib.hid (OV.out.trans o1); clear b1 o1 LE) | (go_at_call 48; refine (MO.out _ _ B1.out).mono ?_; rintro e y2 ⟨rfl, b2, o2⟩; have B2 := Lib.hid b2; have O2 := Lib.hid (O1.out.trans o2); clear b2 o2 MO))
  clear hHeld BV OV FA SL SH B1 O1 HB
  generalize max mn ((ones lo : Nat) : Int) = M at *
  generalize min mx ((ones hi : Nat) : Int) = X at *
  generalize ones lo = OL at *
  generalize ones hi = OH at *
  generalize decide (sub64 lo hi = 0) = D at *
  have S0 : (fun (wx : World) => wx.cell? ⟨g, 0, none⟩ = some (.int .u64 lo) ∧ wx.cell? ⟨g, 1, none⟩ = some (.int .u64 hi) ∧ wx.cell? ⟨g, 2, none⟩ = some (.int .i64 M) ∧ wx.cell? ⟨g, 3, none⟩ = some (.int .i64 X)) y2.drew := ⟨B2.out.facts.1, B2.out.facts.2.1, B2.out.facts.2.2.1, B2.out.facts.2.2.2.1⟩
  have BV := Lib.hid (show Bd y2.drew g lo hi M X from B2.out)
  have OV := Lib.hid (O2.out.drew)
  clear B2 O2
  cases D with
  | false =>
    refine wp_region_held_drew (S := fun (wx : World) => wx.cell? ⟨g, 0, none⟩ = some (.int .u64 lo) ∧ wx.cell? ⟨g, 1, none⟩ = some (.int .u64 hi) ∧ wx.cell? ⟨g, 2, none⟩ = some (.int .i64 M) ∧ wx.cell? ⟨g, 3, none⟩ = some (.int .i64 X)) (by kernel_rfl) S0 (fun hHeld => ?_)
    generalize y2.drew = V at *
    refine wpAnyH_take (i := 0) (oi := { dst := some 21, op := Op.move (Operand.tmp 0), type := 81, pos := "bounds.go:64", after := #[], guard := none }) (v := ?vn11k0) rfl (by kernel_rfl) (by kernel_rfl) (by kernel_rfl) (fun _ _ _ h => h) (Or.inl ⟨by kernel_rfl, ?yn11k0⟩) (by assumption) ?rn11k0
    case yn11k0 => intro w hSw; (try dsimp only at hSw); go_simp; try with_reducible rfl
    try simp only [Act.put, List.setIfInBounds_toArray, List.set_cons_zero, List.set_cons_succ]
    refine wpAnyH_take (i := 1) (oi := { dst := some 22, op := Op.nilCheck (Operand.tmp 21), type := 0, pos := "bounds.go:64", after := #[{ on := 0, ground := Ground.data }], guard := none }) (v := ?vn12k1) rfl (by kernel_rfl) (by kernel_rfl) (by kernel_rfl) (fun _ _ _ h => h) (Or.inl ⟨by kernel_rfl, ?yn12k1⟩) (by assumption) ?rn12k1
    case yn12k1 => intro w hSw; (try dsimp only at hSw); go_simp; try with_reducible rfl
    try simp only [Act.put, List.setIfInBounds_toArray, List.set_cons_zero, List.set_cons_succ]
    refine wpAnyH_take (i := 2) (oi := { dst := some 23, op := Op.fieldAddr 58 (Operand.tmp 22) 0, type := 0, pos := "bounds.go:64", after := #[{ on := 1, ground := Ground.data }], guard := none }) (v := ?vn13k2) rfl (by kernel_rfl) (by kernel_rfl) (by kernel_rfl) (fun _ _ _ h => h) (Or.inl ⟨by kernel_rfl, ?yn13k2⟩) (by assumption) ?rn13k2
    case yn13k2 => intro w hSw; (try dsimp only at hSw); go_simp; try with_reducible rfl
    try simp only [Act.put, List.setIfInBounds_toArray, List.set_cons_zero, List.set_cons_succ]
    refine wpAnyH_take (i := 3) (oi := { dst := some 24, op := Op.load 56 (Operand.tmp 23), type := 56, pos := "bounds.go:64", after := #[{ on := 2, ground := Ground.data }], guard := none }) (v := ?vn14k3) rfl (by kernel_rfl) (by kernel_rfl) (by kernel_rfl) (fun _ _ _ h => h) (Or.inl ⟨by kernel_rfl, ?yn14k3⟩) (by assumption) ?rn14k3
    case yn14k3 => intro w hSw; (try dsimp only at hSw); go_simp; try with_reducible rfl
    try simp only [Act.put, List.setIfInBounds_toArray, List.set_cons_zero, List.set_cons_succ]
    refine wpAnyH_take (i := 4) (oi := { dst := some 25, op := Op.move (Operand.tmp 0), type := 81, pos := "bounds.go:64", after := #[], guard := none }) (v := ?vn15k4) rfl (by kernel_rfl) (by kernel_rfl) (by kernel_rfl) (fun _ _ _ h => h) (Or.inl ⟨by kernel_rfl, ?yn15k4⟩) (by assumption) ?rn15k4
    case yn15k4 => intro w hSw; (try dsimp only at hSw); go_simp; try with_reducible rfl
    try simp only [Act.put, List.setIfInBounds_toArray, List.set_cons_zero, List.set_cons_succ]
    refine wpAnyH_take (i := 5) (oi := { dst := some 26, op := Op.nilCheck (Operand.tmp 25), type := 0, pos := "bounds.go:64", after := #[{ on := 4, ground := Ground.data }], guard := none }) (v := ?vn16k5) rfl (by kernel_rfl) (by kernel_rfl) (by kernel_rfl) (fun _ _ _ h => h) (Or.inl ⟨by kernel_rfl, ?yn16k5⟩) (by assumption) ?rn16k5
    case yn16k5 => intro w hSw; (try dsimp only at hSw); go_simp; try with_reducible rfl
    try simp only [Act.put, List.setIfInBounds_toArray, List.set_cons_zero, List.set_cons_succ]
    refine wpAnyH_take (i := 6) (oi := { dst := some 27, op := Op.fieldAddr 58 (Operand.tmp 26) 1, type := 0, pos := "bounds.go:64", after := #[{ on := 5, ground := Ground.data }], guard := none }) (v := ?vn17k6) rfl (by kernel_rfl) (by kernel_rfl) (by kernel_rfl) (fun _ _ _ h => h) (Or.inl ⟨by kernel_rfl, ?yn17k6⟩) (by assumption) ?rn17k6
    case yn17k6 => intro w hSw; (try dsimp only at hSw); go_simp; try with_reducible rfl
    try simp only [Act.put, List.setIfInBounds_toArray, List.set_cons_zero, List.set_cons_succ]
    refine wpAnyH_take (i := 7) (oi := { dst := some 28, op := Op.load 56 (Operand.tmp 27), type := 56, pos := "bounds.go:64", after := #[{ on := 6, ground := Ground.data }], guard := none }) (v := ?vn18k7) rfl (by kernel_rfl) (by kernel_rfl) (by kernel_rfl) (fun _ _ _ h => h) (Or.inl ⟨by kernel_rfl, ?yn18k7⟩) (by assumption) ?rn18k7
    case yn18k7 => intro w hSw; (try dsimp only at hSw); go_simp; try with_reducible rfl
    try simp only [Act.put, List.setIfInBounds_toArray, List.set_cons_zero, List.set_cons_succ]
    refine wpAnyH_ready (rs := [8]) (by kernel_rfl) (by simp) (AllReadyH.cons (o := { dst := some 29, op := Op.call { callee := Callee.value (Operand.func 49), args := #[Operand.tmp 24, Operand.tmp 28], argTypes := #[56, 56] }, type := 4, pos := "bounds.go:64", after := #[{ on := 3, ground := Ground.data }, { on := 7, ground := Ground.data }], guard := none }) rfl (fun K hK => ?_) AllReadyH.nil)
    go_simp
    refine (IN.out _).mono ?_
    rintro e x8 ⟨rfl, rfl⟩
    clear hHeld
    refine hK.out _ _ (by assumption) (fun hHeld => ?_)
    clear hK K
    try simp only [Act.put, List.setIfInBounds_toArray, List.set_cons_zero, List.set_cons_succ]
    refine wpAnyH_take (i := 9) (oi := { dst := some 30, op := Op.unOp UnOp.not 4 (Operand.tmp 29), type := 4, pos := "bounds.go:64", after := #[{ on := 8, ground := Ground.data }], guard := none }) (v := ?vn19k9) rfl (by kernel_rfl) (by kernel_rfl) (by kernel_rfl) (fun _ _ _ h => h) (Or.inl ⟨by kernel_rfl, ?yn19k9⟩) (by assumption) ?rn19k9
    case yn19k9 => intro w hSw; (try dsimp only at hSw); go_simp; try with_reducible rfl
    try simp only [Act.put, List.setIfInBounds_toArray, List.set_cons_zero, List.set_cons_succ]
    refine wpAnyH_take (i := 10) (oi := { dst := some 31, op := Op.move (Operand.tmp 30), type := 4, pos := "bounds.go:64", after := #[{ on := 9, ground := Ground.data }, { on := 8, ground := Ground.chain }], guard := none }) (v := ?vn20k10) rfl (by kernel_rfl) (by kernel_rfl) (by kernel_rfl) (fun _ _ _ h => h) (Or.inl ⟨by kernel_rfl, ?yn20k10⟩) (by assumption) ?rn20k10
    case yn20k10 => intro w hSw; (try dsimp only at hSw); go_simp; try with_reducible rfl
    try simp only [Act.put, List.setIfInBounds_toArray, List.set_cons_zero, List.set_cons_succ]
    refine wpAnyH_take (i := 11) (oi := { dst := some 32, op := Op.move (Operand.tmp 0), type := 81, pos := "bounds.go:64", after := #[{ on := 10, ground := Ground.guard }], guard := some (10, false) }) (v := undef) rfl (by kernel_rfl) (by kernel_rfl) (by kernel_rfl) (fun _ _ _ h => h) (Or.inr ⟨by kernel_rfl, rfl⟩) (by assumption) ?rn21k11
    try simp only [Act.put, List.setIfInBounds_toArray, List.set_cons_zero, List.set_cons_succ]
    refine wpAnyH_take (i := 12) (oi := { dst := some 33, op := Op.nilCheck (Operand.tmp 32), type := 0, pos := "bounds.go:64", after := #[{ on := 11, ground := Ground.data }, { on := 10, ground := Ground.guard }], guard := some (10, false) }) (v := undef) rfl (by kernel_rfl) (by kernel_rfl) (by kernel_rfl) (fun _ _ _ h => h) (Or.inr ⟨by kernel_rfl, rfl⟩) (by assumption) ?rn22k12
    try simp only [Act.put, List.setIfInBounds_toArray, List.set_cons_zero, List.set_cons_succ]
    refine wpAnyH_take (i := 13) (oi := { dst := some 34, op := Op.fieldAddr 58 (Operand.tmp 33) 2, type := 0, pos := "bounds.go:64", after := #[{ on := 12, ground := Ground.data }, { on := 10, ground := Ground.guard }], guard := some (10, false) }) (v := undef) rfl (by kernel_rfl) (by kernel_rfl) (by kernel_rfl) (fun _ _ _ h => h) (Or.inr ⟨by kernel_rfl, rfl⟩) (by assumption) ?rn23k13
    try simp only [Act.put, List.setIfInBounds_toArray, List.set_cons_zero, List.set_cons_succ]
    refine wpAnyH_take (i := 14) (oi := { dst := some 35, op := Op.load 3 (Operand.tmp 34), type := 3, pos := "bounds.go:64", after := #[{ on := 13, ground := Ground.data }, { on := 10, ground := Ground.guard }], guard := some (10, false) }) (v := undef) rfl (by kernel_rfl) (by kernel_rfl) (by kernel_rfl) (fun _ _ _ h => h) (Or.inr ⟨by kernel_rfl, rfl⟩) (by assumption) ?rn24k14
    try simp only [Act.put, List.setIfInBounds_toArray, List.set_cons_zero, List.set_cons_succ]
    refine wpAnyH_take (i := 15) (oi := { dst := some 36, op := Op.move (Operand.tmp 0), type := 81, pos := "bounds.go:64", after := #[{ on := 10, ground := Ground.guard }], guard := some (10, false) }) (v := undef) rfl (by kernel_rfl) (by kernel_rfl) (by kernel_rfl) (fun _ _ _ h => h) (Or.inr ⟨by kernel_rfl, rfl⟩) (by assumption) ?rn25k15
    try simp only [Act.put, List.setIfInBounds_toArray, List.set_cons_zero, List.set_cons_succ]
    refine wpAnyH_take (i := 16) (oi := { dst := some 37, op := Op.nilCheck (Operand.tmp 36), type := 0, pos := "bounds.go:64", after := #[{ on := 15, ground := Ground.data }, { on := 10, ground := Ground.guard }], guard := some (10, false) }) (v := undef) rfl (by kernel_rfl) (by kernel_rfl) (by kernel_rfl) (fun _ _ _ h => h) (Or.inr ⟨by kernel_rfl, rfl⟩) (by assumption) ?rn26k16
    try simp only [Act.put, List.setIfInBounds_toArray, List.set_cons_zero, List.set_cons_succ]
    refine wpAnyH_take (i := 17) (oi := { dst := some 38, op := Op.fieldAddr 58 (Operand.tmp 37) 3, type := 0, pos := "bounds.go:64", after := #[{ on := 16, ground := Ground.data }, { on := 10, ground := Ground.guard }], guard := some (10, false) }) (v := undef) rfl (by kernel_rfl) (by kernel_rfl) (by kernel_rfl) (fun _ _ _ h => h) (Or.inr ⟨by kernel_rfl, rfl⟩) (by assumption) ?rn27k17
    try simp only [Act.put, List.setIfInBounds_toArray, List.set_cons_zero, List.set_cons_succ]
    refine wpAnyH_take (i := 18) (oi := { dst := some 39, op := Op.load 3 (Operand.tmp 38), type := 3, pos := "bounds.go:64", after := #[{ on := 17, ground := Ground.data }, { on := 10, ground := Ground.guard }], guard := some (10, false) }) (v := undef) rfl (by kernel_rfl) (by kernel_rfl) (by kernel_rfl) (fun _ _ _ h => h) (Or.inr ⟨by kernel_rfl, rfl⟩) (by assumption) ?rn28k18
    try simp only [Act.put, List.setIfInBounds_toArray, List.set_cons_zero, List.set_cons_succ]
    refine wpAnyH_take (i := 19) (oi := { dst := some 40, op := Op.binOp BinOp.gtr 3 (Operand.tmp 35) (Operand.tmp 39) 3, type := 4, pos := "bounds.go:64", after := #[{ on := 14, ground := Ground.data }, { on := 18, ground := Ground.data }, { on := 10, ground := Ground.guard }], guard := some (10, false) }) (v := undef) rfl (by kernel_rfl) (by kernel_rfl) (by kernel_rfl) (fun _ _ _ h => h) (Or.inr ⟨by kernel_rfl, rfl⟩) (by assumption) ?rn29k19
    try simp only [Act.put, List.setIfInBounds_toArray, List.set_cons_zero, List.set_cons_succ]
    refine wpAnyH_take (i := 20) (oi := { dst := some 41, op := Op.pick (Operand.tmp 31) (Operand.const (Value.bool true)) (Operand.tmp 40), type := 4, pos := "bounds.go:64", after := #[{ on := 10, ground := Ground.data }, { on := 19, ground := Ground.data }], guard := none }) (v := ?vn30k20) rfl (by kernel_rfl) (by kernel_rfl) (by kernel_rfl) (fun _ _ _ h => h) (Or.inl ⟨by kernel_rfl, ?yn30k20⟩) (by assumption) ?rn30k20
    case yn30k20 => intro w hSw; (try dsimp only at hSw); go_simp; try with_reducible rfl
    try simp only [Act.put, List.setIfInBounds_toArray, List.set_cons_zero, List.set_cons_succ]
    refine wpAnyH_done (by kernel_rfl) ?_ _
    go_wp2_with fail
    exact QF.out _ _ ⟨rfl, OV.out, fun h => by cases h⟩
  | true =>
    by_cases hMX : X < M
    · have QF2 := Lib.hid (fun w' (k : Only g w w') => QF.out (.returned (.bool false)) w' ⟨by rw [decide_eq_false (show ¬ M ≤ X by omega)]; rfl, k, fun h => by rw [decide_eq_false (show ¬ M ≤ X by omega)] at h; cases h⟩)
      clear QF
      refine wp_region_held_drew (S := fun (wx : World) => wx.cell? ⟨g, 0, none⟩ = some (.int .u64 lo) ∧ wx.cell? ⟨g, 1, none⟩ = some (.int .u64 hi) ∧ wx.cell? ⟨g, 2, none⟩ = some (.int .i64 M) ∧ wx.cell? ⟨g, 3, none⟩ = some (.int .i64 X)) (by kernel_rfl) S0 (fun hHeld => ?_)
      generalize y2.drew = V at *
      refine wpAnyH_take (i := 0) (oi := { dst := some 21, op := Op.move (Operand.tmp 0), type := 81, pos := "bounds.go:64", after := #[], guard := none }) (v := ?vn31k0) rfl (by kernel_rfl) (by kernel_rfl) (by kernel_rfl) (fun _ _ _ h => h) (Or.inl ⟨by kernel_rfl, ?yn31k0⟩) (by assumption) ?rn31k0
      case yn31k0 => intro w hSw; (try dsimp only at hSw); go_simp; try with_reducible rfl
      try simp only [Act.put, List.setIfInBounds_toArray, List.set_cons_zero, List.set_cons_succ]
      refine wpAnyH_take (i := 1) (oi := { dst := some 22, op := Op.nilCheck (Operand.tmp 21), type := 0, pos := "bounds.go:64", after := #[{ on := 0, ground := Ground.data }], guard := none }) (v := ?vn32k1) rfl (by kernel_rfl) (by kernel_rfl) (by kernel_rfl) (fun _ _ _ h => h) (Or.inl ⟨by kernel_rfl, ?yn32k1⟩) (by assumption) ?rn32k1
      case yn32k1 => intro w hSw; (try dsimp only at hSw); go_simp; try with_reducible rfl
      try simp only [Act.put, List.setIfInBounds_toArray, List.set_cons_zero, List.set_cons_succ]
      refine wpAnyH_take (i := 2) (oi := { dst := some 23, op := Op.fieldAddr 58 (Operand.tmp 22) 0, type := 0, pos := "bounds.go:64", after := #[{ on := 1, ground := Ground.data }], guard := none }) (v := ?vn33k2) rfl (by kernel_rfl) (by kernel_rfl) (by kernel_rfl) (fun _ _ _ h => h) (Or.inl ⟨by kernel_rfl, ?yn33k2⟩) (by assumption) ?rn33k2
      case yn33k2 => intro w hSw; (try dsimp only at hSw); go_simp; try with_reducible rfl
      try simp only [Act.put, List.setIfInBounds_toArray, List.set_cons_zero, List.set_cons_succ]
      refine wpAnyH_take (i := 3) (oi := { dst := some 24, op := Op.load 56 (Operand.tmp 23), type := 56, pos := "bounds.go:64", after := #[{ on := 2, ground := Ground.data }], guard := none }) (v := ?vn34k3) rfl (by kernel_rfl) (by kernel_rfl) (by kernel_rfl) (fun _ _ _ h => h) (Or.inl ⟨by kernel_rfl, ?yn34k3⟩) (by assumption) ?rn34k3
      case yn34k3 => intro w hSw; (try dsimp only at hSw); go_simp; try with_reducible rfl
      try simp only [Act.put, List.setIfInBounds_toArray, List.set_cons_zero, List.set_cons_succ]
      refine wpAnyH_take (i := 4) (oi := { dst := some 25, op := Op.move (Operand.tmp 0), type := 81, pos := "bounds.go:64", after := #[], guard := none }) (v := ?vn35k4) rfl (by kernel_rfl) (by kernel_rfl) (by kernel_rfl) (fun _ _ _ h => h) (Or.inl ⟨by kernel_rfl, ?yn35k4⟩) (by assumption) ?rn35k4
      case yn35k4 => intro w hSw; (try dsimp only at hSw); go_simp; try with_reducible rfl
      try simp only [Act.put, List.setIfInBounds_toArray, List.set_cons_zero, List.set_cons_succ]
      refine wpAnyH_take (i := 5) (oi := { dst := some 26, op := Op.nilCheck (Operand.tmp 25), type := 0, pos := "bounds.go:64", after := #[{ on := 4, ground := Ground.data }], guard := none }) (v := ?vn36k5) rfl (by kernel_rfl) (by kernel_rfl) (by kernel_rfl) (fun _ _ _ h => h) (Or.inl ⟨by kernel_rfl, ?yn36k5⟩) (by assumption) ?rn36k5
      case yn36k5 => intro w hSw; (try dsimp only at hSw); go_simp; try with_reducible rfl
      try simp only [Act.put, List.setIfInBounds_toArray, List.set_cons_zero, List.set_cons_succ]
      refine wpAnyH_take (i := 6) (oi := { dst := some 27, op := Op.fieldAddr 58 (Operand.tmp 26) 1, type := 0, pos := "bounds.go:64", after := #[{ on := 5, ground := Ground.data }], guard := none }) (v := ?vn37k6) rfl (by kernel_rfl) (by kernel_rfl) (by kernel_rfl) (fun _ _ _ h => h) (Or.inl ⟨by kernel_rfl, ?yn37k6⟩) (by assumption) ?rn37k6
      case yn37k6 => intro w hSw; (try dsimp only at hSw); go_simp; try with_reducible rfl
      try simp only [Act.put, List.setIfInBounds_toArray, List.set_cons_zero, List.set_cons_succ]
      refine wpAnyH_take (i := 7) (oi := { dst := some 28, op := Op.load 56 (Operand.tmp 27), type := 56, pos := "bounds.go:64", after := #[{ on := 6, ground := Ground.data }], guard := none }) (v := ?vn38k7) rfl (by kernel_rfl) (by kernel_rfl) (by kernel_rfl) (fun _ _ _ h => h) (Or.inl ⟨by kernel_rfl, ?yn38k7⟩) (by assumption) ?rn38k7
      case yn38k7 => intro w hSw; (try dsimp only at hSw); go_simp; try with_reducible rfl
      try simp only [Act.put, List.setIfInBounds_toArray, List.set_cons_zero, List.set_cons_succ]
      refine wpAnyH_ready (rs := [8]) (by kernel_rfl) (by simp) (AllReadyH.cons (o := { dst := some 29, op := Op.call { callee := Callee.value (Operand.func 49), args := #[Operand.tmp 24, Operand.tmp 28], argTypes := #[56, 56] }, type := 4, pos := "bounds.go:64", after := #[{ on := 3, ground := Ground.data }, { on := 7, ground := Ground.data }], guard := none }) rfl (fun K hK => ?_) AllReadyH.nil)
      go_simp
      refine (IN.out _).mono ?_
      rintro e x8 ⟨rfl, rfl⟩
      clear hHeld
      refine hK.out _ _ (by assumption) (fun hHeld => ?_)
      clear hK K
      try simp only [Act.put, List.setIfInBounds_toArray, List.set_cons_zero, List.set_cons_succ]
      refine wpAnyH_take (i := 9) (oi := { dst := some 30, op := Op.unOp UnOp.not 4 (Operand.tmp 29), type := 4, pos := "bounds.go:64", after := #[{ on := 8, ground := Ground.data }], guard := none }) (v := ?vn39k9) rfl (by kernel_rfl) (by kernel_rfl) (by kernel_rfl) (fun _ _ _ h => h) (Or.inl ⟨by kernel_rfl, ?yn39k9⟩) (by assumption) ?rn39k9
      case yn39k9 => intro w hSw; (try dsimp only at hSw); go_simp; try with_reducible rfl
      try simp only [Act.put, List.setIfInBounds_toArray, List.set_cons_zero, List.set_cons_succ]
      refine wpAnyH_take (i := 10) (oi := { dst := some 31, op := Op.move (Operand.tmp 30), type := 4, pos := "bounds.go:64", after := #[{ on := 9, ground := Ground.data }, { on := 8, ground := Ground.chain }], guard := none }) (v := ?vn40k10) rfl (by kernel_rfl) (by kernel_rfl) (by kernel_rfl) (fun _ _ _ h => h) (Or.inl ⟨by kernel_rfl, ?yn40k10⟩) (by assumption) ?rn40k10
      case yn40k10 => intro w hSw; (try dsimp only at hSw); go_simp; try with_reducible rfl
      try simp only [Act.put, List.setIfInBounds_toArray, List.set_cons_zero, List.set_cons_succ]
      refine wpAnyH_take (i := 11) (oi := { dst := some 32, op := Op.move (Operand.tmp 0), type := 81, pos := "bounds.go:64", after := #[{ on := 10, ground := Ground.guard }], guard := some (10, false) }) (v := ?vn41k11) rfl (by kernel_rfl) (by kernel_rfl) (by kernel_rfl) (fun _ _ _ h => h) (Or.inl ⟨by kernel_rfl, ?yn41k11⟩) (by assumption) ?rn41k11
      case yn41k11 => intro w hSw; (try dsimp only at hSw); go_simp; try with_reducible rfl
      try simp only [Act.put, List.setIfInBounds_toArray, List.set_cons_zero, List.set_cons_succ]
      refine wpAnyH_take (i := 12) (oi := { dst := some 33, op := Op.nilCheck (Operand.tmp 32), type := 0, pos := "bounds.go:64", after := #[{ on := 11, ground := Ground.data }, { on := 10, ground := Ground.guard }], guard := some (10, false) }) (v := ?vn42k12) rfl (by kernel_rfl) (by kernel_rfl) (by kernel_rfl) (fun _ _ _ h => h) (Or.inl ⟨by kernel_rfl, ?yn42k12⟩) (by assumption) ?rn42k12
      case yn42k12 => intro w hSw; (try dsimp only at hSw); go_simp; try with_reducible rfl
      try simp only [Act.put, List.setIfInBounds_toArray, List.set_cons_zero, List.set_cons_succ]
      refine wpAnyH_take (i := 13) (oi := { dst := some 34, op := Op.fieldAddr 58 (Operand.tmp 33) 2, type := 0, pos := "bounds.go:64", after := #[{ on := 12, ground := Ground.data }, { on := 10, ground := Ground.guard }], guard := some (10, false) }) (v := ?vn43k13) rfl (by kernel_rfl) (by kernel_rfl) (by kernel_rfl) (fun _ _ _ h => h) (Or.inl ⟨by kernel_rfl, ?yn43k13⟩) (by assumption) ?rn43k13
      case yn43k13 => intro w hSw; (try dsimp only at hSw); go_simp; try with_reducible rfl
      try simp only [Act.put, List.setIfInBounds_toArray, List.set_cons_zero, List.set_cons_succ]
      refine wpAnyH_take (i := 14) (oi := { dst := some 35, op := Op.load 3 (Operand.tmp 34), type := 3, pos := "bounds.go:64", after := #[{ on := 13, ground := Ground.data }, { on := 10, ground := Ground.guard }], guard := some (10, false) }) (v := ?vn44k14) rfl (by kernel_rfl) (by kernel_rfl) (by kernel_rfl) (fun _ _ _ h => h) (Or.inl ⟨by kernel_rfl, ?yn44k14⟩) (by assumption) ?rn44k14
      case yn44k14 => intro w hSw; (try dsimp only at hSw); go_simp; try with_reducible rfl
      try simp only [Act.put, List.setIfInBounds_toArray, List.set_cons_zero, List.set_cons_succ]
      refine wpAnyH_take (i := 15) (oi := { dst := some 36, op := Op.move (Operand.tmp 0), type := 81, pos := "bounds.go:64", after := #[{ on := 10, ground := Ground.guard }], guard := some (10, false) }) (v := ?vn45k15) rfl (by kernel_rfl) (by kernel_rfl) (by kernel_rfl) (fun _ _ _ h => h) (Or.inl ⟨by kernel_rfl, ?yn45k15⟩) (by assumption) ?rn45k15
      case yn45k15 => intro w hSw; (try dsimp only at hSw); go_simp; try with_reducible rfl
      try simp only [Act.put, List.setIfInBounds_toArray, List.set_cons_zero, List.set_cons_succ]
      refine wpAnyH_take (i := 16) (oi := { dst := some 37, op := Op.nilCheck (Operand.tmp 36), type := 0, pos := "bounds.go:64", after := #[{ on := 15, ground := Ground.data }, { on := 10, ground := Ground.guard }], guard := some (10, false) }) (v := ?vn46k16) rfl (by kernel_rfl) (by kernel_rfl) (by kernel_rfl) (fun _ _ _ h => h) (Or.inl ⟨by kernel_rfl, ?yn46k16⟩) (by assumption) ?rn46k16
      case yn46k16 => intro w hSw; (try dsimp only at hSw); go_simp; try with_reducible rfl
      try simp only [Act.put, List.setIfInBounds_toArray, List.set_cons_zero, List.set_cons_succ]
      refine wpAnyH_take (i := 17) (oi := { dst := some 38, op := Op.fieldAddr 58 (Operand.tmp 37) 3, type := 0, pos := "bounds.go:64", after := #[{ on := 16, ground := Ground.data }, { on := 10, ground := Ground.guard }], guard := some (10, false) }) (v := ?vn47k17) rfl (by kernel_rfl) (by kernel_rfl) (by kernel_rfl) (fun _ _ _ h => h) (Or.inl ⟨by kernel_rfl, ?yn47k17⟩) (by assumption) ?rn47k17
      case yn47k17 => intro w hSw; (try dsimp only at hSw); go_simp; try with_reducible rfl
      try simp only [Act.put, List.setIfInBounds_toArray, List.set_cons_zero, List.set_cons_succ]
      refine wpAnyH_take (i := 18) (oi := { dst := some 39, op := Op.load 3 (Operand.tmp 38), type := 3, pos := "bounds.go:64", after := #[{ on := 17, ground := Ground.data }, { on := 10, ground := Ground.guard }], guard := some (10, false) }) (v := ?vn48k18) rfl (by kernel_rfl) (by kernel_rfl) (by kernel_rfl) (fun _ _ _ h => h) (Or.inl ⟨by kernel_rfl, ?yn48k18⟩) (by assumption) ?rn48k18
      case yn48k18 => intro w hSw; (try dsimp only at hSw); go_simp; try with_reducible rfl
      try simp only [Act.put, List.setIfInBounds_toArray, List.set_cons_zero, List.set_cons_succ]
      refine wpAnyH_take (i := 19) (oi := { dst := some 40, op := Op.binOp BinOp.gtr 3 (Operand.tmp 35) (Operand.tmp 39) 3, type := 4, pos := "bounds.go:64", after := #[{ on := 14, ground := Ground.data }, { on := 18, ground := Ground.data }, { on := 10, ground := Ground.guard }], guard := some (10, false) }) (v := ?vn49k19) rfl (by kernel_rfl) (by kernel_rfl) (by kernel_rfl) (fun _ _ _ h => h) (Or.inl ⟨by kernel_rfl, ?yn49k19⟩) (by assumption) ?rn49k19
      case yn49k19 => intro w hSw; (try dsimp only at hSw); go_simp; try with_reducible rfl
      try simp only [Act.put, List.setIfInBounds_toArray, List.set_cons_zero, List.set_cons_succ]
      refine wpAnyH_take (i := 20) (oi := { dst := some 41, op := Op.pick (Operand.tmp 31) (Operand.const (Value.bool true)) (Operand.tmp 40), type := 4, pos := "bounds.go:64", after := #[{ on := 10, ground := Ground.data }, { on := 19, ground := Ground.data }], guard := none }) (v := ?vn50k20) rfl (by kernel_rfl) (by kernel_rfl) (by kernel_rfl) (fun _ _ _ h => h) (Or.inl ⟨by kernel_rfl, ?yn50k20⟩) (by assumption) ?rn50k20
      case yn50k20 => intro w hSw; (try dsimp only at hSw); go_simp; try with_reducible rfl
      try simp only [Act.put, List.setIfInBounds_toArray, List.set_cons_zero, List.set_cons_succ]
      refine wpAnyH_done (by kernel_rfl) ?_ _
      go_wp2_with fail
      exact QF2.out _ OV.out
    · have QF2 := Lib.hid (fun w' (k : Only g w w') (b : Bd w' g (if M = OH then hi else lo) (if M = OH then hi else if X = OL then lo else hi) M X) => QF.out (.returned (.bool true)) w' ⟨by rw [decide_eq_true (show M ≤ X by omega)]; rfl, k, fun _ => b⟩)
      clear QF
      refine wp_region_held_drew (S := fun (wx : World) => wx.cell? ⟨g, 0, none⟩ = some (.int .u64 lo) ∧ wx.cell? ⟨g, 1, none⟩ = some (.int .u64 hi) ∧ wx.cell? ⟨g, 2, none⟩ = some (.int .i64 M) ∧ wx.cell? ⟨g, 3, none⟩ = some (.int .i64 X)) (by kernel_rfl) S0 (fun hHeld => ?_)
      generalize y2.drew = V at *
      refine wpAnyH_take (i := 0) (oi := { dst := some 21, op := Op.move (Operand.tmp 0), type := 81, pos := "bounds.go:64", after := #[], guard := none }) (v := ?vn51k0) rfl (by kernel_rfl) (by kernel_rfl) (by kernel_rfl) (fun _ _ _ h => h) (Or.inl ⟨by kernel_rfl, ?yn51k0⟩) (by assumption) ?rn51k0
      case yn51k0 => intro w hSw; (try dsimp only at hSw); go_simp; try with_reducible rfl
      try simp only [Act.put, List.setIfInBounds_toArray, List.set_cons_zero, List.set_cons_succ]
      refine wpAnyH_take (i := 1) (oi := { dst := some 22, op := Op.nilCheck (Operand.tmp 21), type := 0, pos := "bounds.go:64", after := #[{ on := 0, ground := Ground.data }], guard := none }) (v := ?vn52k1) rfl (by kernel_rfl) (by kernel_rfl) (by kernel_rfl) (fun _ _ _ h => h) (Or.inl ⟨by kernel_rfl, ?yn52k1⟩) (by assumption) ?rn52k1
      case yn52k1 => intro w hSw; (try dsimp only at hSw); go_simp; try with_reducible rfl
      try simp only [Act.put, List.setIfInBounds_toArray, List.set_cons_zero, List.set_cons_succ]
      refine wpAnyH_take (i := 2) (oi := { dst := some 23, op := Op.fieldAddr 58 (Operand.tmp 22) 0, type := 0, pos := "bounds.go:64", after := #[{ on := 1, ground := Ground.data }], guard := none }) (v := ?vn53k2) rfl (by kernel_rfl) (by kernel_rfl) (by kernel_rfl) (fun _ _ _ h => h) (Or.inl ⟨by kernel_rfl, ?yn53k2⟩) (by assumption) ?rn53k2
      case yn53k2 => intro w hSw; (try dsimp only at hSw); go_simp; try with_reducible rfl
      try simp only [Act.put, List.setIfInBounds_toArray, List.set_cons_zero, List.set_cons_succ]
      refine wpAnyH_take (i := 3) (oi := { dst := some 24, op := Op.load 56 (Operand.tmp 23), type := 56, pos := "bounds.go:64", after := #[{ on := 2, ground := Ground.data }], guard := none }) (v := ?vn54k3) rfl (by kernel_rfl) (by kernel_rfl) (by kernel_rfl) (fun _ _ _ h => h) (Or.inl ⟨by kernel_rfl, ?yn54k3⟩) (by assumption) ?rn54k3
      case yn54k3 => intro w hSw; (try dsimp only at hSw); go_simp; try with_reducible rfl
      try simp only [Act.put, List.setIfInBounds_toArray, List.set_cons_zero, List.set_cons_succ]
      refine wpAnyH_take (i := 4) (oi := { dst := some 25, op := Op.move (Operand.tmp 0), type := 81, pos := "bounds.go:64", after := #[], guard := none }) (v := ?vn55k4) rfl (by kernel_rfl) (by kernel_rfl) (by kernel_rfl) (fun _ _ _ h => h) (Or.inl ⟨by kernel_rfl, ?yn55k4⟩) (by assumption) ?rn55k4
      case yn55k4 => intro w hSw; (try dsimp only at hSw); go_simp; try with_reducible rfl
      try simp only [Act.put, List.setIfInBounds_toArray, List.set_cons_zero, List.set_cons_succ]
      refine wpAnyH_take (i := 5) (oi := { dst := some 26, op := Op.nilCheck (Operand.tmp 25), type := 0, pos := "bounds.go:64", after := #[{ on := 4, ground := Ground.data }], guard := none }) (v := ?vn56k5) rfl (by kernel_rfl) (by kernel_rfl) (by kernel_rfl) (fun _ _ _ h => h) (Or.inl ⟨by kernel_rfl, ?yn56k5⟩) (by assumption) ?rn56k5
      case yn56k5 => intro w hSw; (try dsimp only at hSw); go_simp; try with_reducible rfl
      try simp only [Act.put, List.setIfInBounds_toArray, List.set_cons_zero, List.set_cons_succ]
      refine wpAnyH_take (i := 6) (oi := { dst := some 27, op := Op.fieldAddr 58 (Operand.tmp 26) 1, type := 0, pos := "bounds.go:64", after := #[{ on := 5, ground := Ground.data }], guard := none }) (v := ?vn57k6) rfl (by kernel_rfl) (by kernel_rfl) (by kernel_rfl) (fun _ _ _ h => h) (Or.inl ⟨by kernel_rfl, ?yn57k6⟩) (by assumption) ?rn57k6
      case yn57k6 => intro w hSw; (try dsimp only at hSw); go_simp; try with_reducible rfl
      try simp only [Act.put, List.setIfInBounds_toArray, List.set_cons_zero, List.set_cons_succ]
      refine wpAnyH_take (i := 7) (oi := { dst := some 28, op := Op.load 56 (Operand.tmp 27), type := 56, pos := "bounds.go:64", after := #[{ on := 6, ground := Ground.data }], guard := none }) (v := ?vn58k7) rfl (by kernel_rfl) (by kernel_rfl) (by kernel_rfl) (fun _ _ _ h => h) (Or.inl ⟨by kernel_rfl, ?yn58k7⟩) (by assumption) ?rn58k7
      case yn58k7 => intro w hSw; (try dsimp only at hSw); go_simp; try with_reducible rfl
      try simp only [Act.put, List.setIfInBounds_toArray, List.set_cons_zero, List.set_cons_succ]
      refine wpAnyH_ready (rs := [8]) (by kernel_rfl) (by simp) (AllReadyH.cons (o := { dst := some 29, op := Op.call { callee := Callee.value (Operand.func 49), args := #[Operand.tmp 24, Operand.tmp 28], argTypes := #[56, 56] }, type := 4, pos := "bounds.go:64", after := #[{ on := 3, ground := Ground.data }, { on := 7, ground := Ground.data }], guard := none }) rfl (fun K hK => ?_) AllReadyH.nil)
      go_simp
      refine (IN.out _).mono ?_
      rintro e x8 ⟨rfl, rfl⟩
      clear hHeld
      refine hK.out _ _ (by assumption) (fun hHeld => ?_)
      clear hK K
      try simp only [Act.put, List.setIfInBounds_toArray, List.set_cons_zero, List.set_cons_succ]
      refine wpAnyH_take (i := 9) (oi := { dst := some 30, op := Op.unOp UnOp.not 4 (Operand.tmp 29), type := 4, pos := "bounds.go:64", after := #[{ on := 8, ground := Ground.data }], guard := none }) (v := ?vn59k9) rfl (by kernel_rfl) (by kernel_rfl) (by kernel_rfl) (fun _ _ _ h => h) (Or.inl ⟨by kernel_rfl, ?yn59k9⟩) (by assumption) ?rn59k9
      case yn59k9 => intro w hSw; (try dsimp only at hSw); go_simp; try with_reducible rfl
      try simp only [Act.put, List.setIfInBounds_toArray, List.set_cons_zero, List.set_cons_succ]
      refine wpAnyH_take (i := 10) (oi := { dst := some 31, op := Op.move (Operand.tmp 30), type := 4, pos := "bounds.go:64", after := #[{ on := 9, ground := Ground.data }, { on := 8, ground := Ground.chain }], guard := none }) (v := ?vn60k10) rfl (by kernel_rfl) (by kernel_rfl) (by kernel_rfl) (fun _ _ _ h => h) (Or.inl ⟨by kernel_rfl, ?yn60k10⟩) (by assumption) ?rn60k10
      case yn60k10 => intro w hSw; (try dsimp only at hSw); go_simp; try with_reducible rfl
      try simp only [Act.put, List.setIfInBounds_toArray, List.set_cons_zero, List.set_cons_succ]
      refine wpAnyH_take (i := 11) (oi := { dst := some 32, op := Op.move (Operand.tmp 0), type := 81, pos := "bounds.go:64", after := #[{ on := 10, ground := Ground.guard }], guard := some (10, false) }) (v := ?vn61k11) rfl (by kernel_rfl) (by kernel_rfl) (by kernel_rfl) (fun _ _ _ h => h) (Or.inl ⟨by kernel_rfl, ?yn61k11⟩) (by assumption) ?rn61k11
      case yn61k11 => intro w hSw; (try dsimp only at hSw); go_simp; try with_reducible rfl
      try simp only [Act.put, List.setIfInBounds_toArray, List.set_cons_zero, List.set_cons_succ]
      refine wpAnyH_take (i := 12) (oi := { dst := some 33, op := Op.nilCheck (Operand.tmp 32), type := 0, pos := "bounds.go:64", after := #[{ on := 11, ground := Ground.data }, { on := 10, ground := Ground.guard }], guard := some (10, false) }) (v := ?vn62k12) rfl (by kernel_rfl) (by kernel_rfl) (by kernel_rfl) (fun _ _ _ h => h) (Or.inl ⟨by kernel_rfl, ?yn62k12⟩) (by assumption) ?rn62k12
      case yn62k12 => intro w hSw; (try dsimp only at hSw); go_simp; try with_reducible rfl
      try simp only [Act.put, List.setIfInBounds_toArray, List.set_cons_zero, List.set_cons_succ]
      refine wpAnyH_take (i := 13) (oi := { dst := some 34, op := Op.fieldAddr 58 (Operand.tmp 33) 2, type := 0, pos := "bounds.go:64", after := #[{ on := 12, ground := Ground.data }, { on := 10, ground := Ground.guard }], guard := some (10, false) }) (v := ?vn63k13) rfl (by kernel_rfl) (by kernel_rfl) (by kernel_rfl) (fun _ _ _ h => h) (Or.inl ⟨by kernel_rfl, ?yn63k13⟩) (by assumption) ?rn63k13
      case yn63k13 => intro w hSw; (try dsimp only at hSw); go_simp; try with_reducible rfl
      try simp only [Act.put, List.setIfInBounds_toArray, List.set_cons_zero, List.set_cons_succ]
      refine wpAnyH_take (i := 14) (oi := { dst := some 35, op := Op.load 3 (Operand.tmp 34), type := 3, pos := "bounds.go:64", after := #[{ on := 13, ground := Ground.data }, { on := 10, ground := Ground.guard }], guard := some (10, false) }) (v := ?vn64k14) rfl (by kernel_rfl) (by kernel_rfl) (by kernel_rfl) (fun _ _ _ h => h) (Or.inl ⟨by kernel_rfl, ?yn64k14⟩) (by assumption) ?rn64k14
      case yn64k14 => intro w hSw; (try dsimp only at hSw); go_simp; try with_reducible rfl
      try simp only [Act.put, List.setIfInBounds_toArray, List.set_cons_zero, List.set_cons_succ]
      refine wpAnyH_take (i := 15) (oi := { dst := some 36, op := Op.move (Operand.tmp 0), type := 81, pos := "bounds.go:64", after := #[{ on := 10, ground := Ground.guard }], guard := some (10, false) }) (v := ?vn65k15) rfl (by kernel_rfl) (by kernel_rfl) (by kernel_rfl) (fun _ _ _ h => h) (Or.inl ⟨by kernel_rfl, ?yn65k15⟩) (by assumption) ?rn65k15
      case yn65k15 => intro w hSw; (try dsimp only at hSw); go_simp; try with_reducible rfl
      try simp only [Act.put, List.setIfInBounds_toArray, List.set_cons_zero, List.set_cons_succ]
      refine wpAnyH_take (i := 16) (oi := { dst := some 37, op := Op.nilCheck (Operand.tmp 36), type := 0, pos := "bounds.go:64", after := #[{ on := 15, ground := Ground.data }, { on := 10, ground := Ground.guard }], guard := some (10, false) }) (v := ?vn66k16) rfl (by kernel_rfl) (by kernel_rfl) (by kernel_rfl) (fun _ _ _ h => h) (Or.inl ⟨by kernel_rfl, ?yn66k16⟩) (by assumption) ?rn66k16
      case yn66k16 => intro w hSw; (try dsimp only at hSw); go_simp; try with_reducible rfl
      try simp only [Act.put, List.setIfInBounds_toArray, List.set_cons_zero, List.set_cons_succ]
      refine wpAnyH_take (i := 17) (oi := { dst := some 38, op := Op.fieldAddr 58 (Operand.tmp 37) 3, type := 0, pos := "bounds.go:64", after := #[{ on := 16, ground := Ground.data }, { on := 10, ground := Ground.guard }], guard := some (10, false) }) (v := ?vn67k17) rfl (by kernel_rfl) (by kernel_rfl) (by kernel_rfl) (fun _ _ _ h => h) (Or.inl ⟨by kernel_rfl, ?yn67k17⟩) (by assumption) ?rn67k17
      case yn67k17 => intro w hSw; (try dsimp only at hSw); go_simp; try with_reducible rfl
      try simp only [Act.put, List.setIfInBounds_toArray, List.set_cons_zero, List.set_cons_succ]
      refine wpAnyH_take (i := 18) (oi := { dst := some 39, op := Op.load 3 (Operand.tmp 38), type := 3, pos := "bounds.go:64", after := #[{ on := 17, ground := Ground.data }, { on := 10, ground := Ground.guard }], guard := some (10, false) }) (v := ?vn68k18) rfl (by kernel_rfl) (by kernel_rfl) (by kernel_rfl) (fun _ _ _ h => h) (Or.inl ⟨by kernel_rfl, ?yn68k18⟩) (by assumption) ?rn68k18
      case yn68k18 => intro w hSw; (try dsimp only at hSw); go_simp; try with_reducible rfl
      try simp only [Act.put, List.setIfInBounds_toArray, List.set_cons_zero, List.set_cons_succ]
      refine wpAnyH_take (i := 19) (oi := { dst := some 40, op := Op.binOp BinOp.gtr 3 (Operand.tmp 35) (Operand.tmp 39) 3, type := 4, pos := "bounds.go:64", after := #[{ on := 14, ground := Ground.data }, { on := 18, ground := Ground.data }, { on := 10, ground := Ground.guard }], guard := some (10, false) }) (v := ?vn69k19) rfl (by kernel_rfl) (by kernel_rfl) (by kernel_rfl) (fun _ _ _ h => h) (Or.inl ⟨by kernel_rfl, ?yn69k19⟩) (by assumption) ?rn69k19
      case yn69k19 => intro w hSw; (try dsimp only at hSw); go_simp; try with_reducible rfl
      try simp only [Act.put, List.setIfInBounds_toArray, List.set_cons_zero, List.set_cons_succ]
      refine wpAnyH_take (i := 20) (oi := { dst := some 41, op := Op.pick (Operand.tmp 31) (Operand.const (Value.bool true)) (Operand.tmp 40), type := 4, pos := "bounds.go:64", after := #[{ on := 10, ground := Ground.data }, { on := 19, ground := Ground.data }], guard := none }) (v := ?vn70k20) rfl (by kernel_rfl) (by kernel_rfl) (by kernel_rfl) (fun _ _ _ h => h) (Or.inl ⟨by kernel_rfl, ?yn70k20⟩) (by assumption) ?rn70k20
      case yn70k20 => intro w hSw; (try dsimp only at hSw); go_simp; try with_reducible rfl
      try simp only [Act.put, List.setIfInBounds_toArray, List.set_cons_zero, List.set_cons_succ]
      refine wpAnyH_done (by kernel_rfl) ?_ _
      obtain ⟨d0, d1, d2, d3, fz⟩ := BV.out.facts
      have f0 := fz 0
      have f1 := fz 1
      clear fz hHeld S0
      by_cases hA : M = OH
      · have e1 : (M == (OH : Int)) = true := by simpa using hA
        have QF3 := Lib.hid (fun w' (k : Only g w w') (b : Bd w' g hi hi M X) => QF2.out w' k (by rw [if_pos hA, if_pos hA]; exact b))
        clear QF2 hA
        go_wp2_with fail
        exact QF3.out _ (OV.out.trans (Only.set _ _ _)) (heap_setCell_same _ g 0 _ _ (.int .u64 (hi : Int)) BV.out)
      · have e1 : (M == (OH : Int)) = false := by simpa using hA
        by_cases hB : X = OL
        · have e2 : (X == (OL : Int)) = true := by simpa using hB
          have QF3 := Lib.hid (fun w' (k : Only g w w') (b : Bd w' g lo lo M X) => QF2.out w' k (by rw [if_neg hA, if_neg hA, if_pos hB]; exact b))
          clear QF2 hA hB
          go_wp2_with fail
          exact QF3.out _ (OV.out.trans (Only.set _ _ _)) (heap_setCell_same _ g 1 _ _ (.int .u64 (lo : Int)) BV.out)
        · have e2 : (X == (OL : Int)) = false := by simpa using hB
          have QF3 := Lib.hid (fun w' (k : Only g w w') (b : Bd w' g lo hi M X) => QF2.out w' k (by rw [if_neg hA, if_neg hA, if_neg hB]; exact b))
          clear QF2 hA hB
          go_wp2_with fail
          exact QF3.out _ OV.out BV.out
end Go.Proofs.YtcbjkclajkjicaaGreatDoor
