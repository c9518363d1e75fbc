/-
  The walks of nat.subtract and nat.add: they work on words in place.
-/
import Derived.Test.YtkpkifhjedlieaaDoorCmp
import Derived.Laws.Externs
namespace Go.Proofs.YtkpkifhjedlieaaDoor
open Go.RowKit NM
/-! math/bits.Add64, Sub64: the model's entries, as laws of the call. -/
def lo64 (x y c : Nat) : Nat := (x + y + c) % B64
def hi64 (x y c : Nat) : Nat := (x + y + c) / B64
def df64 (x y c : Nat) : Nat := (x + B64 - y - c) % B64
def br64 (x y c : Nat) : Nat := if x < y + c then 1 else 0
theorem hi64_le {x y c : Nat} (hx : x < B64) (hy : y < B64) (hc : c ≤ 1) : hi64 x y c ≤ 1 := by
  unfold hi64
  have : (x + y + c) < 2 * B64 := by omega
  have := (Nat.div_lt_iff_lt_mul B64_pos).2 this
  omega
theorem lo64_lt (x y c : Nat) : lo64 x y c < B64 := Nat.mod_lt _ B64_pos
theorem df64_lt (x y c : Nat) : df64 x y c < B64 := Nat.mod_lt _ B64_pos
theorem br64_le (x y c : Nat) : br64 x y c ≤ 1 := by unfold br64; split <;> omega
def addE : Array Value → Sem Value := fun args => do
  let (x, y, c) ← Extern.MathBitsCarry.three "Add64" args
  pure (Extern.MathBitsCarry.pair ((x + y + c) % Extern.MathBitsCarry.m64) ((x + y + c) / Extern.MathBitsCarry.m64))
def subE : Array Value → Sem Value := fun args => do
  let (x, y, b) ← Extern.MathBitsCarry.three "Sub64" args
  pure (Extern.MathBitsCarry.pair ((x + Extern.MathBitsCarry.m64 - y - b) % Extern.MathBitsCarry.m64) (if x < y + b then 1 else 0))
theorem run_addE (x y c : Nat) (hc : c ≤ 1) (P : Program) (w : World) :
    (addE #[.int .u64 x, .int .u64 y, .int .u64 c]).run P w = .ok (.tuple #[.int .u64 (lo64 x y c : Nat), .int .u64 (hi64 x y c : Nat)]) w := by
  have : c = 0 ∨ c = 1 := by omega
  rcases this with rfl | rfl <;> rfl
theorem run_subE (x y c : Nat) (hc : c ≤ 1) (P : Program) (w : World) :
    (subE #[.int .u64 x, .int .u64 y, .int .u64 c]).run P w = .ok (.tuple #[.int .u64 (df64 x y c : Nat), .int .u64 (br64 x y c : Nat)]) w := by
  have : c = 0 ∨ c = 1 := by omega
  rcases this with rfl | rfl <;> rfl
theorem add64 (x y c : Nat) (hc : c ≤ 1) (w : World) :
    (callFunc 47 #[.int .u64 x, .int .u64 y, .int .u64 c]).run Tryd.prog w = .ok (.value (.tuple #[.int .u64 (lo64 x y c : Nat), .int .u64 (hi64 x y c : Nat)])) w := by
  rw [run_callFunc_extern Tryd.func47 (by kernel_rfl) (by kernel_rfl) (by kernel_rfl) (e := addE) (by kernel_rfl), run_addE x y c hc]; rfl
theorem sub64 (x y c : Nat) (hc : c ≤ 1) (w : World) :
    (callFunc 46 #[.int .u64 x, .int .u64 y, .int .u64 c]).run Tryd.prog w = .ok (.value (.tuple #[.int .u64 (df64 x y c : Nat), .int .u64 (br64 x y c : Nat)])) w := by
  rw [run_callFunc_extern Tryd.func46 (by kernel_rfl) (by kernel_rfl) (by kernel_rfl) (e := subE) (by kernel_rfl), run_subE x y c hc]; rfl
theorem add64_y0 (x c : Nat) (hc : c ≤ 1) (w : World) :
    (callFunc 47 #[.int .u64 x, .int .u64 0, .int .u64 c]).run Tryd.prog w = .ok (.value (.tuple #[.int .u64 (lo64 x 0 c : Nat), .int .u64 (hi64 x 0 c : Nat)])) w := add64 x 0 c hc w
theorem add64_c0 (x y : Nat) (w : World) :
    (callFunc 47 #[.int .u64 x, .int .u64 y, .int .u64 0]).run Tryd.prog w = .ok (.value (.tuple #[.int .u64 (lo64 x y 0 : Nat), .int .u64 (hi64 x y 0 : Nat)])) w := add64 x y 0 (by omega) w
theorem sub64_y0 (x c : Nat) (hc : c ≤ 1) (w : World) :
    (callFunc 46 #[.int .u64 x, .int .u64 0, .int .u64 c]).run Tryd.prog w = .ok (.value (.tuple #[.int .u64 (df64 x 0 c : Nat), .int .u64 (br64 x 0 c : Nat)])) w := sub64 x 0 c hc w
/-! subtract -/
/-- words Z at their place, of the old length, nothing else turned -/
structure At (n b o : Nat) (w : World) (Z : List Nat) (wr : World) : Prop where
  len : Z.length = n
  wd : Wd Z
  row : Row wr b o Z
  only : Only b o (o+n) w wr
theorem At.set {n b o : Nat} {w wr : World} {Z : List Nat} (h : At n b o w Z wr) (k v : Nat) (hk : k < n) (hv : v < B64) : At n b o w (Z.set k v) (wr.setCell ⟨b, o+k, none⟩ (.int .u64 (v : Nat))) :=
  ⟨by rw [List.length_set]; exact h.len, Wd_set h.wd k v hv, h.row.set k v (by rw [h.len]; exact hk), h.only.set _ _ (by omega) (by omega)⟩
theorem At.start {b o : Nat} {w : World} {X : List Nat} (hX : Wd X) (hR : Row w b o X) : At X.length b o w X w := ⟨rfl, hX, hR, Only.refl _ _ _ _⟩
def SubQ (X Y : List Nat) (b o : Nat) (w : World) (e : Ending) (w' : World) : Prop :=
  ∃ Z, At X.length b o w Z w' ∧ wv Z + wv Y = wv X ∧ e = .returned (.tuple #[])
theorem sub_room {X Z : List Nat} {U k c : Nat} (hZ : Wd Z) (hl : Z.length = X.length) (hU : U ≤ wv X) (hv : wv Z + U = wv X + c * B64^k) (hc : c ≠ 0) : k < X.length := by
  apply Nat.lt_of_not_le; intro h
  have h1 := wv_lt Z hZ
  have h2 : B64^Z.length ≤ B64^k := Nat.pow_le_pow_right B64_pos (by omega)
  have h3 : B64^k ≤ c * B64^k := Nat.le_mul_of_pos_left _ (by omega)
  omega
set_option maxHeartbeats 1000000 in
theorem subtract_any (w : World) (b o cap b2 o2 cap2 : Nat) (X Y : List Nat) (hR : Row w b o X) (hS : Row w b2 o2 Y) (hX : Wd X) (hY : Wd Y) (hne : b2 ≠ b) (hb2 : b2 < w.heap.size)
    (hn : X.length ≤ 9223372036854775806) (hc : X.length ≤ cap) (hc2 : Y.length ≤ cap2) (hm : Y.length ≤ X.length) (hle : wv Y ≤ wv X) :
    Calls Tryd.prog 25 #[.slice (some ⟨b, o, none⟩) X.length cap, .slice (some ⟨b2, o2, none⟩) Y.length cap2] w (SubQ X Y b o w) := by
  go_enter Tryd.func25, Tryd.ntmps25
  go_wp2
  go_loopw [4, 10] (fun c i wr => ∃ (k cc : Nat) (Z : List Nat), k ≤ Y.length ∧ cc ≤ 1 ∧ c = .int .u64 (cc : Nat) ∧ i = .int .i64 (k : Nat) ∧ At X.length b o w Z wr ∧ Hid (wv Z + wv (Y.take k) = wv X + cc * B64^k)) (fun _ i _ => Y.length - (intOf i).toNat)
  case atStart => exact ⟨0, 0, X, Nat.zero_le _, Nat.zero_le _, rfl, rfl, At.start hX hR, by show _ = _; simp [wv]⟩
  case round =>
    obtain ⟨k, cc, Z, hk, hcc, rfl, rfl, hA, hv⟩ := hrel
    by_cases hlt : k < Y.length
    · have hx := hA.row.cell k (by rw [hA.len]; omega)
      have hf := hA.row.free k (by rw [hA.len]; omega)
      have hy := (hA.only.row hS hne hb2).cell k hlt
      have HR := Lib.hid hR; clear hR
      have HS := Lib.hid hS; clear hS
      go_wp2_with (simp only [sub64 (gd Z k) (gd Y k) cc hcc])
      go_roundw
      case rel => exact ⟨k + 1, br64 (gd Z k) (gd Y k) cc, Z.set k (df64 (gd Z k) (gd Y k) cc), hlt, br64_le _ _ _, rfl, by go_num, hA.set k _ (by omega) (df64_lt _ _ _), by
        show _ = _
        rw [wv_take_succ Y k hlt]
        exact sub_step Z k cc (gd Y k) (wv X) _ (by rw [hA.len]; omega) hA.wd (Wd_getD hY k) hcc hv.out⟩
      case measure => (simp [intOf]; try omega)
    · obtain rfl : k = Y.length := by omega
      have hv2 : Hid (wv Z + wv Y = wv X + cc * B64^Y.length) := by have := hv.out; rwa [List.take_length] at this
      have HR := Lib.hid hR; clear hR
      have HS := Lib.hid hS; clear hS
      clear hv hlt hk
      go_wp2
      go_loopw [4, 7] (fun c i wr => ∃ (k cc : Nat) (Z : List Nat), Y.length ≤ k ∧ k ≤ X.length ∧ cc ≤ 1 ∧ c = .int .u64 (cc : Nat) ∧ i = .int .i64 (k : Nat) ∧ At X.length b o w Z wr ∧ Hid (wv Z + wv Y = wv X + cc * B64^k)) (fun _ i _ => X.length - (intOf i).toNat)
      case atStart => exact ⟨Y.length, cc, Z, Nat.le_refl _, hm, hcc, rfl, rfl, hA, hv2⟩
      case round =>
        clear hv2 hA hcc
        obtain ⟨k, cc, Z, hk, hkn, hcc, rfl, rfl, hA, hv⟩ := hrel
        by_cases h0 : cc = 0
        · subst h0
          go_wp2
          go_end0
          exact ⟨Z, hA, by have := hv.out; omega, rfl⟩
        · have hlt : k < X.length := sub_room hA.wd hA.len hle hv.out h0
          have hx := hA.row.cell k (by rw [hA.len]; omega)
          have hf := hA.row.free k (by rw [hA.len]; omega)
          have hb0 : ((cc : Int) != 0) = true := by simp; omega
          go_wp2_with (simp only [sub64_y0 (gd Z k) cc hcc])
          go_roundw
          case rel => exact ⟨k + 1, br64 (gd Z k) 0 cc, Z.set k (df64 (gd Z k) 0 cc), by omega, by omega, br64_le _ _ _, rfl, by go_num, hA.set k _ (by omega) (df64_lt _ _ _), by
            show _ = _
            have := sub_step Z k cc 0 (wv X) _ (by rw [hA.len]; omega) hA.wd B64_pos hcc hv.out
            simpa [br64, df64, gd] using this⟩
          case measure => (simp [intOf]; try omega)
end Go.Proofs.YtkpkifhjedlieaaDoor
