/-
  The walk of the reference's Read of a hash's text.
-/
import Derived.Test.YtcelgajmockpcaaDoorReadA
namespace Go.Proofs.YtcelgajmockpcaaDoor
open Go.RowKit SH
/-- the last of the first k digits that is c, or -1 -/
def fi (c : UInt8) : Nat → Int
  | 0 => -1
  | k+1 => if digs.getD k 0 = c then k else fi c k
theorem fi_all : ∀ n, n < 256 → fi (UInt8.ofNat n) 16 = ix (UInt8.ofNat n) := by decide +kernel
theorem fi_ix (c : UInt8) : fi c 16 = ix c := by
  have h := fi_all c.toNat c.toNat_lt
  rwa [UInt8.ofNat_toNat] at h
theorem fi_rng (c : UInt8) : ∀ k, -1 ≤ fi c k ∧ fi c k < (k : Int) ∨ fi c k = -1
  | 0 => .inr rfl
  | k+1 => by
    unfold fi
    split
    · left; omega
    · rcases fi_rng c k with h | h
      · left; omega
      · right; exact h
theorem dig_index (k : Nat) (hk : k < 16) (h : k < (ByteArray.mk #[48, 49, 50, 51, 52, 53, 54, 55, 56, 57, 97, 98, 99, 100, 101, 102]).size) : ((ByteArray.mk #[48, 49, 50, 51, 52, 53, 54, 55, 56, 57, 97, 98, 99, 100, 101, 102])[k]'h) = digs.getD k 0 := by
  match k, hk with
  | 0, _ => rfl
  | 1, _ => rfl
  | 2, _ => rfl
  | 3, _ => rfl
  | 4, _ => rfl
  | 5, _ => rfl
  | 6, _ => rfl
  | 7, _ => rfl
  | 8, _ => rfl
  | 9, _ => rfl
  | 10, _ => rfl
  | 11, _ => rfl
  | 12, _ => rfl
  | 13, _ => rfl
  | 14, _ => rfl
  | 15, _ => rfl
  | n+16, h => exact absurd h (by omega)
set_option maxRecDepth 100000 in
set_option maxHeartbeats 2000000 in
theorem refRead_short (w : World) (t : ByteArray) (hn : t.size ≠ 64) :
    Calls Tryd.prog 10 #[.string t] w fun e w' => e = .returned (RDV t.data.toList) ∧ Below w.heap.size w w' := by
  have hR := Lib.hid (RDV_none (l := t.data.toList) (by unfold rdo; rw [if_neg (by rw [size_toList]; exact hn)]))
  have hb0 : ((t.size : Int) == 64) = false := beq_eq_false_iff_ne.2 (by omega)
  have hi32 : Hid ((Tryd.prog.info? 23).map (·.size) = some (hcells (List.replicate 32 0)).size) := Lib.hid (by rw [hcells_size]; kernel_rfl)
  obtain ⟨W, hW⟩ : ∃ W, (w.alloc (.cells (hcells (List.replicate 32 0)) 23)).alloc (.cells (hcells (List.replicate 32 0)) 23) = W := ⟨_, rfl⟩
  have h0 : HM W w.heap.size (List.replicate 32 0) := by rw [← hW]; exact heap_alloc2_old _ _ _
  have h1 : HM W (w.heap.size + 1) (List.replicate 32 0) := by rw [← hW]; exact heap_alloc2_new _ _ _
  have hb : Below w.heap.size w W := by rw [← hW]; exact ((Below.refl w.heap.size w).alloc (Nat.le_refl _) _).alloc (by simp) _
  have HB := Lib.hid hb; clear hb
  go_enter Tryd.func10, Tryd.ntmps10
  go_upto_region 2 with fail
  change Code.wp _ _ _ _ ((w.alloc (.cells (hcells (List.replicate 32 0)) 23)).alloc (.cells (hcells (List.replicate 32 0)) 23))
  rw [hW]
  clear hW
  go_wp2_with (first | (refine wpList_load_row rfl 23 (.tmp 4) rfl (w.heap.size + 1) rfl 23 (hcells (List.replicate 32 0)) (0, 0) _ h1 Tryd.underlying23 rfl hi32.out ?_) | (refine wpList_store_row rfl 23 (.tmp 2) (.tmp 11) rfl w.heap.size (hcells (List.replicate 32 0)) rfl rfl 23 _ h0 hi32.out rfl (hcells_one _) ?_))
  refine bodyPost_ret (results_row_tmp rfl _ _ w.heap.size _ (hcells (List.replicate 32 0)) _ _ rfl (setRow_heap _ _ _ _ _ _ h0) Tryd.underlying23 rfl hi32.out) rfl ?_
  exact ⟨by rw [hR.out]; rfl, Below.setRow' HB.out (Nat.le_refl _) _⟩
/-- what the reference keeps behind i digits -/
def ST (L : List UInt8) (i : Nat) (l : List UInt8) : Prop :=
  ∃ r, rd (L.take (2 * (i / 2))) = some r ∧ r.length = i / 2 ∧ (i % 2 = 0 → l = r ++ List.replicate (32 - i / 2) 0) ∧
    (i % 2 = 1 → 0 ≤ ix (L.getD (i - 1) 0) ∧ l = r ++ UInt8.ofNat (ix (L.getD (i - 1) 0)).toNat :: List.replicate (31 - i / 2) 0)
theorem ST.start (L : List UInt8) : ST L 0 (List.replicate 32 0) := ⟨[], rfl, rfl, fun _ => rfl, fun h => by simp at h⟩
theorem ST.length {L : List UInt8} {i : Nat} {l : List UInt8} (h : ST L i l) (hi : i < 64 ∨ i = 64) : l.length = 32 := by
  obtain ⟨r, _, h2, h3, h4⟩ := h
  rcases Nat.mod_two_eq_zero_or_one i with e | e
  · rw [h3 e, List.length_append, List.length_replicate, h2]; omega
  · rw [(h4 e).2, List.length_append, List.length_cons, List.length_replicate, h2]; omega
theorem gb_mid (r : List UInt8) (k : Nat) (b : UInt8) (m : List UInt8) (hr : r.length = k) : gb (r ++ b :: m) k = b.toNat := by
  unfold gb
  rw [List.getD_eq_getElem?_getD, List.getElem?_append_right (by omega), hr, Nat.sub_self]
  rfl
theorem set_mid (r : List UInt8) (k : Nat) (b c : UInt8) (m : List UInt8) (hr : r.length = k) : (r ++ b :: m).set k c = r ++ c :: m := by
  rw [List.set_append_right _ _ (by omega), hr, Nat.sub_self]; rfl
theorem take2 (L : List UInt8) (k : Nat) (h : 2 * k + 1 < L.length) : L.take (2 * (k + 1)) = L.take (2 * k) ++ [L.getD (2 * k) 0, L.getD (2 * k + 1) 0] := by
  rw [show 2 * (k + 1) = 2 * k + 1 + 1 by omega, List.take_add_one, List.take_add_one, List.append_assoc]
  rw [List.getD_eq_getElem?_getD, List.getD_eq_getElem?_getD, List.getElem?_eq_getElem (show 2 * k < L.length by omega), List.getElem?_eq_getElem h]
  rfl
theorem ST.step {L : List UInt8} {i : Nat} {l : List UInt8} (h : ST L i l) (hL : L.length = 64) (hi : i < 64) (n : Nat) (hn : ix (L.getD i 0) = n) :
    ST L (i + 1) (l.set (i / 2) (UInt8.ofNat ((gb l (i / 2) * 16 + n) % 256))) := by
  have hn16 : n < 16 := by have := ix_or (L.getD i 0); omega
  obtain ⟨r, h1, h2, h3, h4⟩ := h
  rcases Nat.mod_two_eq_zero_or_one i with e | e
  · refine ⟨r, by rw [show (i + 1) / 2 = i / 2 by omega]; exact h1, by omega, fun h => by omega, fun _ => ?_⟩
    rw [h3 e, show 32 - i / 2 = (31 - i / 2) + 1 by omega, List.replicate_succ, gb_mid _ _ _ _ h2, set_mid _ _ _ _ _ h2, show i + 1 - 1 = i by omega, hn, show (i + 1) / 2 = i / 2 by omega]
    refine ⟨by omega, ?_⟩
    congr 3
    show (0 * 16 + n) % 256 = (n : Int).toNat
    omega
  · obtain ⟨h5, h6⟩ := h4 e
    obtain ⟨m, hm⟩ : ∃ m : Nat, ix (L.getD (i - 1) 0) = m := ⟨_, (Int.toNat_of_nonneg h5).symm⟩
    have hm16 : m < 16 := by have := ix_or (L.getD (i - 1) 0); omega
    rw [hm, Int.toNat_natCast] at h6
    have hms : (UInt8.ofNat m).toNat = m := by simp; omega
    rw [h6, gb_mid _ _ _ _ h2, set_mid _ _ _ _ _ h2, hms]
    refine ⟨r ++ [UInt8.ofNat ((m * 16 + n) % 256)], ?_, by rw [List.length_append, h2]; simp; omega, fun _ => ?_, fun h => by omega⟩
    · rw [show 2 * ((i + 1) / 2) = 2 * (i / 2 + 1) by omega, take2 L (i / 2) (by omega), rd_append (i / 2) _ _ (by rw [List.length_take]; omega), h1, show 2 * (i / 2) = i - 1 by omega, show i - 1 + 1 = i by omega]
      simp only [rd, hm, hn]
      rw [if_pos ⟨by omega, by omega⟩]
      simp only [Int.toNat_natCast, Option.map_some, Option.bind_some]
      congr 3
      rw [Nat.mod_eq_of_lt (by omega), Nat.mul_comm]
    · rw [show 32 - (i + 1) / 2 = 31 - i / 2 by omega, List.append_assoc]; rfl
theorem ST.fail {L : List UInt8} {i : Nat} {l : List UInt8} (h : ST L i l) (hL : L.length = 64) (hi : i < 64) (hn : ix (L.getD i 0) < 0) : rd L = none := by
  obtain ⟨r, h1, _⟩ := h
  have hk : 2 * (i / 2) + 1 < L.length := by omega
  have hno : ¬ (0 ≤ ix (L.getD (2 * (i / 2)) 0) ∧ 0 ≤ ix (L.getD (2 * (i / 2) + 1) 0)) := by
    rintro ⟨a, b⟩
    rcases Nat.mod_two_eq_zero_or_one i with e | e
    · rw [show 2 * (i / 2) = i by omega] at a; omega
    · rw [show 2 * (i / 2) + 1 = i by omega] at b; omega
  rw [show L = L.take (2 * (i / 2 + 1)) ++ L.drop (2 * (i / 2 + 1)) from (List.take_append_drop _ _).symm, take2 L (i / 2) hk, List.append_assoc, rd_append (i / 2) _ _ (by rw [List.length_take]; omega), h1]
  simp only [List.cons_append, List.nil_append, rd]
  rw [if_neg hno]; rfl
theorem ST.stop {L l : List UInt8} (h : ST L 64 l) (hL : L.length = 64) : rd L = some l := by
  obtain ⟨r, h1, h2, h3, _⟩ := h
  rw [List.take_of_length_le (by omega)] at h1
  rw [h1, h3 rfl]; simp
end Go.Proofs.YtcelgajmockpcaaDoor
