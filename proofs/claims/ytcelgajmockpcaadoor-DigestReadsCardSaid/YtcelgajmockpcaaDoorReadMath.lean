/-
  The reading of a hash's text: the value of a digit, and the bytes that 64 digits spell.
-/
import Derived.Test.YtcelgajmockpcaaDoorLawSums
namespace Go.Proofs.YtcelgajmockpcaaDoor
open Go.RowKit SH
/-- the value of a digit, or -1 -/
def ix (c : UInt8) : Int := Lib.indexByte digs c
set_option maxRecDepth 100000 in
theorem ix_all : ∀ n, n < 256 → (ix (UInt8.ofNat n) = -1 ∨ (0 ≤ ix (UInt8.ofNat n) ∧ ix (UInt8.ofNat n) < 16)) := by decide +kernel
theorem ix_or (c : UInt8) : ix c = -1 ∨ (0 ≤ ix c ∧ ix c < 16) := by
  have h := ix_all c.toNat c.toNat_lt
  rwa [UInt8.ofNat_toNat] at h
theorem ix_dig : ∀ m, m < 16 → ix (digs.getD m 0) = m := by decide
/-- the bytes that digits spell -/
def rd : List UInt8 → Option (List UInt8)
  | [] => some []
  | [_] => none
  | a :: b :: l => if 0 ≤ ix a ∧ 0 ≤ ix b then (rd l).map (UInt8.ofNat (16 * (ix a).toNat + (ix b).toNat) :: ·) else none
theorem rd_hex : ∀ l, rd (hex l) = some l
  | [] => rfl
  | b :: l => by
    have hb := b.toNat_lt
    have e : 16 * (b.toNat / 16) + b.toNat % 16 = b.toNat := by omega
    simp only [hex, rd, ix_dig _ (show b.toNat / 16 < 16 by omega), ix_dig _ (show b.toNat % 16 < 16 by omega), rd_hex l, Option.map_some]
    rw [if_pos ⟨by omega, by omega⟩, Int.toNat_natCast, Int.toNat_natCast, e, UInt8.ofNat_toNat]
theorem rd_length : ∀ (l r : List UInt8), rd l = some r → l.length = 2 * r.length
  | [], r, h => by simp only [rd, Option.some.injEq] at h; rw [← h]; rfl
  | [_], r, h => by simp [rd] at h
  | a :: b :: l, r, h => by
    simp only [rd] at h
    split at h
    · obtain ⟨r', h1, h2⟩ := Option.map_eq_some_iff.1 h
      rw [← h2, List.length_cons, List.length_cons, List.length_cons, rd_length l r' h1]; omega
    · simp at h
/-- the two halves of a text are read one after the other -/
theorem rd_append : ∀ (n : Nat) (l m : List UInt8), l.length = 2 * n → rd (l ++ m) = (rd l).bind fun r => (rd m).map (r ++ ·)
  | 0, [], m, _ => by simp [rd]
  | 0, _ :: _, _, h => by simp at h
  | n+1, [], _, h => by simp at h
  | n+1, [_], _, h => by simp at h; omega
  | n+1, a :: b :: l, m, h => by
    have ih := rd_append n l m (by simp only [List.length_cons] at h; omega)
    simp only [List.cons_append, rd]
    split
    · rw [ih]; cases rd l <;> cases rd m <;> simp
    · rfl
/-- a text with a piece that isn't read isn't read -/
theorem rd_none (n : Nat) (l m : List UInt8) (h : l.length = 2 * n) (hn : rd l = none) : rd (l ++ m) = none := by rw [rd_append n l m h, hn]; rfl
end Go.Proofs.YtcelgajmockpcaaDoor
