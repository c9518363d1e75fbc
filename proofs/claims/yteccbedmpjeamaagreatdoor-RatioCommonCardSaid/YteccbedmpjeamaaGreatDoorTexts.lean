/-
  The walk of the law NatTexts.
-/
import Derived.StillTailTactics
import Derived.Test.YteccbedmpjeamaaGreatDoorTextA
import Derived.Test.YteccbedmpjeamaaGreatDoorRefText
import Derived.Test.YteccbedmpjeamaaGreatDoorParseA
import Derived.Deep.RegionHeld
namespace Go.Proofs.YteccbedmpjeamaaGreatDoor
open Go.RowKit NM
theorem dig_nat (d : Nat) (h : d < 10) : (UInt8.ofNat (48 + d)).toNat = 48 + d := by
  simp; omega
theorem dec_spec : ∀ n, dval (Lib.decDigits n) = n ∧ (∀ c ∈ Lib.decDigits n, isdg c = true) ∧ (0 < n → (Lib.decDigits n)[0]? ≠ some 48) ∧ Lib.decDigits n ≠ [] := by
  intro n
  induction n using Nat.strongRecOn with
  | ind n ih =>
    by_cases h : n < 10
    · rw [Lib.decDigits_one h]
      refine ⟨?_, fun c hc => ?_, fun h0 h1 => ?_, by simp⟩
      · show 10 * 0 + ((UInt8.ofNat (48 + n)).toNat - 48) = n
        rw [dig_nat n h]; omega
      · rw [List.mem_singleton.1 hc]
        exact decide_eq_true (by rw [dig_nat n h]; omega)
      · have h2 : UInt8.ofNat (48 + n) = 48 := by simpa using h1
        have h3 := congrArg UInt8.toNat h2
        rw [dig_nat n h] at h3
        have : (48 : UInt8).toNat = 48 := rfl
        omega
    · obtain ⟨i1, i2, i3, i4⟩ := ih (n / 10) (by omega)
      have e : Lib.decDigits n = Lib.decDigits (n / 10) ++ [UInt8.ofNat (48 + n % 10)] := by
        conv => lhs; rw [Lib.decDigits, dif_neg h]
      rw [e]
      refine ⟨?_, fun c hc => ?_, fun _ h1 => ?_, by simp⟩
      · rw [dval_snoc, i1, dig_nat _ (Nat.mod_lt _ (by omega))]; omega
      · rcases List.mem_append.1 hc with h2 | h2
        · exact i2 c h2
        · rw [List.mem_singleton.1 h2]
          exact decide_eq_true (by rw [dig_nat _ (Nat.mod_lt _ (by omega))]; omega)
      · apply i3 (by omega)
        rw [List.getElem?_append_left (List.length_pos_iff.2 i4)] at h1
        exact h1
theorem parse_dtext (n : Nat) : ParseV (dtext n) = .tuple #[.string (NB n), .bool true] := by
  obtain ⟨h1, h2, h3, h4⟩ := dec_spec n
  unfold ParseV
  have e : (dtext n).data.toList = Lib.decDigits n := rfl
  rw [e, if_pos, h1]
  refine ⟨h4, h2, ?_⟩
  by_cases h : 0 < n
  · exact .inr (h3 h)
  · left
    have : n = 0 := by omega
    subst this
    rw [Lib.decDigits_one (by omega)]; rfl
theorem dtext_size (a : ByteArray) (h : a.size ≤ 40) : (dtext (sv a)).size ≤ 121 ∧ 0 < (dtext (sv a)).size := by
  have e : (dtext (sv a)).size = (Lib.decDigits (sv a)).length := List.size_toArray
  rw [e]
  refine ⟨Nat.le_trans (dec_len (3 * a.size + 1) (sv a) (by omega) ?_) (by omega), List.length_pos_iff.2 (dec_spec _).2.2.2⟩
  have h1 := sv_lt_size a
  have h2 : 256^a.size ≤ (10^3)^a.size := Nat.pow_le_pow_left (by decide) _
  rw [← Nat.pow_mul] at h2
  rw [Nat.pow_succ]
  omega
set_option maxRecDepth 100000 in
set_option maxHeartbeats 2000000 in
theorem Text_zero (w : World) (a : ByteArray) (ha : a.size ≤ 100000) (h0 : sv a = 0) :
    Calls Tryz.prog 59 #[.string a] w fun e w' => e = .returned (.string ⟨#[48]⟩) ∧ Below w.heap.size w w' := by
  go_enter Tryz.func59, Tryz.ntmps59
  go_wp2_with fail
  refine (words_any _ a (by omega)).mono ?_
  rintro e w1 ⟨X, oX, vX, tX, bX, lX, rfl⟩
  obtain rfl := words_zero tX (Eq.trans vX h0)
  clear lX vX oX tX
  go_wp2_with fail
  go_loop [4, 3] (fun l p => l = .slice (some ⟨w.heap.size, 0, none⟩) 0 0 ∧ p = .slice none 0 0) (fun _ _ => 0)
  case atStart => exact ⟨rfl, rfl⟩
  case round =>
    obtain ⟨rfl, rfl⟩ := hrel
    go_wp2
    go_ret
    exact ⟨rfl, bX⟩
theorem Text_all (w : World) (a : ByteArray) (ha : a.size ≤ 100000) (hg : 4 < w.heap.size) (ht : P10 w) :
    Calls Tryz.prog 59 #[.string a] w fun e w' => e = .returned (.string (dtext (sv a))) ∧ Below w.heap.size w w' := by
  by_cases h0 : sv a = 0
  · have := Text_zero w a ha h0
    rwa [show dtext (sv a) = ⟨#[48]⟩ by rw [h0]; unfold dtext; rw [Lib.decDigits_one (by omega)]; rfl]
  · exact Text_any w a ha h0 hg ht
theorem ParseV_form (s : ByteArray) : ∃ (t : ByteArray) (o : Bool), ParseV s = .tuple #[.string t, .bool o] := by
  unfold ParseV; split
  · exact ⟨_, _, rfl⟩
  · exact ⟨_, _, rfl⟩
/-- bytes of a string, that may be written -/
theorem bytes_free (w : World) (s : ByteArray) : ∃ cap w1, (convert 9 57 (.string s)).run Tryz.prog w = .ok (.slice (some ⟨w.heap.size, 0, none⟩) s.size cap) w1 ∧ Below w.heap.size w w1 ∧ w1.heap.size = w.heap.size + 1 ∧ s.size ≤ cap ∧
    (∀ j (h : j < s.size), w1.cell? ⟨w.heap.size, j, none⟩ = some (.int .u8 ((s[j]'h).toNat : Nat))) ∧ (∀ j, j < s.size → w1.frozen? ⟨w.heap.size, j, none⟩ = false) := by
  have h := run_bytes_of_string w 9 57 5 s Tryz.underlying9 Tryz.underlying57 Tryz.underlying5
  obtain ⟨cap, hcap⟩ : ∃ cap, cap = grownCap w s.size 0 5 := ⟨_, rfl⟩
  rw [← hcap] at h
  have hh : (w.drew.alloc (.cells (bytesRow s cap) 5 ((bytesRow s cap).size, (bytesRow s cap).size + 1))).heap[w.heap.size]? = some (.cells (bytesRow s cap) 5 ((bytesRow s cap).size, (bytesRow s cap).size + 1)) := by
    show (w.heap.push _)[w.heap.size]? = _
    simp
  refine ⟨cap, _, h, (Below.refl _ w).drew.alloc (Nat.le_refl _) _, ?_, by rw [hcap]; exact grownCap_ge _ _ _ _, fun j hj => ?_, fun j hj => ?_⟩
  · show (w.heap.push _).size = _
    simp
  · rw [Lib.cell_of_heap hh, bytesRow_at _ _ _ hj]; rfl
  · have hsz : s.size ≤ (bytesRow s cap).size := by
      apply Nat.le_of_not_lt; intro h2
      have h3 := bytesRow_at s cap (bytesRow s cap).size h2
      rw [Array.getElem?_eq_none (Nat.le_refl _)] at h3; cases h3
    unfold World.frozen?
    rw [hh]
    simp
    omega
/-- the box of the change lies as it did -/
structure BoxQ (w : World) (e0 e1 : Nat) (W : World) : Prop where
  c0 : W.cell? ⟨w.heap.size, 0, none⟩ = some (.int .u8 (e0 : Nat))
  c1 : W.cell? ⟨w.heap.size, 1, none⟩ = some (.int .u8 (e1 : Nat))
  lt : w.heap.size < W.heap.size
  bl : Below w.heap.size w W
theorem BoxQ.next {w : World} {e0 e1 : Nat} {W W' : World} (h : BoxQ w e0 e1 W) (b : Below W.heap.size W W') : BoxQ w e0 e1 W' :=
  ⟨(b.cell (p := ⟨w.heap.size, 0, none⟩) h.lt).trans h.c0, (b.cell (p := ⟨w.heap.size, 1, none⟩) h.lt).trans h.c1, Nat.lt_of_lt_of_le h.lt b.size, h.bl.trans (b.mono h.bl.size)⟩
theorem BoxQ.start (w : World) (e0 e1 : Nat) (t : TypeId) : BoxQ w e0 e1 (w.alloc (.cells #[.int .u8 (e0 : Nat), .int .u8 (e1 : Nat)] t)) :=
  ⟨by rw [World.cell?_alloc_at _ _ _ _ rfl]; rfl, by rw [World.cell?_alloc_at _ _ _ _ rfl]; rfl, by simp, (Below.refl _ w).alloc (Nat.le_refl _) _⟩
theorem cells6s (w : World) (t : TypeId) (A B C D E F : ByteArray) (a : A.size ≤ 1000) (b : B.size ≤ 1000) (c : C.size ≤ 1000) (d : D.size ≤ 1000) (e : E.size ≤ 1000) (f : F.size ≤ 1000) : ∀ j, j < 6 → ∃ X : ByteArray, X.size ≤ 1000 ∧
    (w.alloc (.cells #[.string A, .string B, .string C, .string D, .string E, .string F] t)).cell? ⟨w.heap.size, j, none⟩ = some (.string X) := by
  intro j hj
  rw [World.cell?_alloc_at _ _ _ _ rfl]
  match j, hj with
  | 0, _ => exact ⟨A, a, rfl⟩
  | 1, _ => exact ⟨B, b, rfl⟩
  | 2, _ => exact ⟨C, c, rfl⟩
  | 3, _ => exact ⟨D, d, rfl⟩
  | 4, _ => exact ⟨E, e, rfl⟩
  | 5, _ => exact ⟨F, f, rfl⟩
/-- bytes that lie in a row, as a string again -/
theorem bytes_back (W : World) (p n cap : Nat) (hc : ∀ j, j < n → ∃ b : UInt8, W.cell? ⟨p, j, none⟩ = some (.int .u8 (b.toNat : Nat))) (hp : p < W.heap.size) :
    ∃ S2 : ByteArray, S2.size = n ∧ ∀ W', Below (p+1) W W' → (convert 57 9 (.slice (some ⟨p, 0, none⟩) n cap)).run Tryz.prog W' = .ok (.string S2) W' := by
  have hc2 : ∀ j, ∃ b : UInt8, j < n → W.cell? ⟨p, j, none⟩ = some (.int .u8 (b.toNat : Nat)) := fun j => by
    by_cases h : j < n
    · obtain ⟨b, hb⟩ := hc j h; exact ⟨b, fun _ => hb⟩
    · exact ⟨0, fun h2 => absurd h2 h⟩
  obtain ⟨f, hf⟩ := Classical.axiomOfChoice hc2
  refine ⟨⟨((List.range n).map f).toArray⟩, by show ((List.range n).map f).toArray.size = n; simp, fun W' hB => ?_⟩
  have h := run_convert_bytes_back (P := Tryz.prog) W' 57 9 5 ⟨p, 0, none⟩ cap ((List.range n).map f) Tryz.underlying57 Tryz.underlying5 Tryz.underlying9 (fun j hj => by
    have hj2 : j < n := by simpa using hj
    rw [Lib.add_plain, Nat.zero_add, hB.cell (p := ⟨p, j, none⟩) (Nat.lt_succ_self p), hf j hj2]
    simp)
  rwa [show ((List.range n).map f).length = n by simp] at h
end Go.Proofs.YteccbedmpjeamaaGreatDoor
