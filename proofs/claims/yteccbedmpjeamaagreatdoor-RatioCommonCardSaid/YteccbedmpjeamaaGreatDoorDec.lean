/-
  Decimal texts: what they denote; the walk of the reference's Parse.
-/
import Derived.Test.YteccbedmpjeamaaGreatDoorRefPow
import Derived.Deep.RegionHeld
namespace Go.Proofs.YteccbedmpjeamaaGreatDoor
open Go.RowKit NM
def isdg (c : UInt8) : Bool := decide (48 ≤ c.toNat ∧ c.toNat ≤ 57)
def dval (l : List UInt8) : Nat := l.foldl (fun n c => 10 * n + (c.toNat - 48)) 0
/-- a text of a number: digits, no zero in front but of 0 itself -/
def decOK (l : List UInt8) : Prop := l ≠ [] ∧ (∀ c ∈ l, isdg c = true) ∧ (l.length = 1 ∨ l[0]? ≠ some 48)
instance (l : List UInt8) : Decidable (decOK l) := by unfold decOK; infer_instance
def ParseV (s : ByteArray) : Value := if decOK s.data.toList then .tuple #[.string (NB (dval s.data.toList)), .bool true] else .tuple #[.string ⟨#[]⟩, .bool false]
theorem dval_snoc (l : List UInt8) (c : UInt8) : dval (l ++ [c]) = 10 * dval l + (c.toNat - 48) := by unfold dval; rw [List.foldl_append]; rfl
theorem dval_take (l : List UInt8) (k : Nat) (c : UInt8) (h : l[k]? = some c) : dval (l.take (k+1)) = 10 * dval (l.take k) + (c.toNat - 48) := by
  rw [List.take_add_one, h]; exact dval_snoc _ _
theorem dval_fold (l : List UInt8) (h : ∀ c ∈ l, isdg c = true) : ∀ a, l.foldl (fun n c => 10 * n + (c.toNat - 48)) a < (a + 1) * 10^l.length := by
  induction l with
  | nil => intro a; simp
  | cons c l ih =>
    intro a
    have h1 := ih (fun x hx => h x (by simp [hx])) (10 * a + (c.toNat - 48))
    have h3 : 48 ≤ c.toNat ∧ c.toNat ≤ 57 := of_decide_eq_true (h c (by simp))
    rw [List.foldl_cons, List.length_cons, Nat.pow_succ]
    refine Nat.lt_of_lt_of_le h1 ?_
    rw [Nat.mul_comm (10^l.length) 10, ← Nat.mul_assoc]
    exact Nat.mul_le_mul_right _ (by omega)
theorem dval_lt (l : List UInt8) (h : ∀ c ∈ l, isdg c = true) : dval l < 10^l.length := by
  have := dval_fold l h 0
  simpa [dval] using this
theorem mul10_size (v n : Nat) (h : v < 256^n) : (NB (v * 10)).size ≤ n + 1 := NB_size (by rw [Nat.pow_succ]; exact Nat.mul_lt_mul'' h (by omega))
theorem dval_size (l : List UInt8) (h : ∀ c ∈ l, isdg c = true) : (NB (dval l)).size ≤ l.length :=
  NB_size (Nat.lt_of_lt_of_le (dval_lt l h) (Nat.pow_le_pow_left (by omega) _))
theorem take_dg (l : List UInt8) (k : Nat) (c : UInt8) (hc : l[k]? = some c) (hd : isdg c = true) (h : ∀ x ∈ l.take k, isdg x = true) : ∀ x ∈ l.take (k+1), isdg x = true := by
  rw [List.take_add_one, hc]
  intro x hx
  rcases List.mem_append.1 hx with h1 | h1
  · exact h x h1
  · have : x = c := by simpa using h1
    rw [this]; exact hd
set_option maxRecDepth 100000 in
set_option maxHeartbeats 8000000 in
theorem RefParse_any (w : World) (s : ByteArray) (hs : s.size ≤ 100000) :
    Calls Tryz.prog 78 #[.string s] w fun e w' => e = .returned (ParseV s) ∧ Below w.heap.size w w' := by
  obtain ⟨l, hl⟩ : ∃ l, l = s.data.toList := ⟨_, rfl⟩
  have hll : l.length = s.size := by rw [hl]; exact Array.length_toList
  by_cases h0 : s.size = 0
  · have hz : ((s.size : Int) == 0) = true := by rw [h0]; rfl
    have hP : ParseV s = .tuple #[.string ⟨#[]⟩, .bool false] := by
      unfold ParseV; rw [if_neg]
      intro h; apply h.1; rw [← hl]; exact List.length_eq_zero_iff.1 (show l.length = 0 by omega)
    rw [hP]
    clear hl hll hP
    go_enter Tryz.func78, Tryz.ntmps78
    go_wp2
    go_ret2
    exact ⟨rfl, Below.refl _ _⟩
  have hsz0 : 0 < s.size := by omega
  have hb0 := byte_at s 0 hsz0
  rw [← hl] at hb0
  obtain ⟨c0, hc0⟩ : ∃ c0, c0 = (s[0]'hsz0).toNat := ⟨_, rfl⟩
  have hz : ((s.size : Int) == 0) = false := beq_eq_false_iff_ne.2 (by omega)
  by_cases h1 : 1 < s.size ∧ c0 = 48
  · have hP : ParseV s = .tuple #[.string ⟨#[]⟩, .bool false] := by
      unfold ParseV; rw [if_neg]
      intro h
      rcases h.2.2 with h2 | h2
      · rw [← hl] at h2; omega
      · apply h2; rw [← hl, hb0]; congr 1; apply UInt8.toNat_inj.1; rw [← hc0, h1.2]; rfl
    rw [hP]
    have e1 : decide ((1 : Int) < (s.size : Int)) = true := by simp; omega
    have e2 : ((c0 : Int) == 48) = true := by simp; omega
    have hc9 : (s[0]'hsz0).toNat = 48 := by rw [← hc0]; exact h1.2
    clear hl hll hP hb0 hc0 h1
    go_enter Tryz.func78, Tryz.ntmps78
    go_wp2
    go_ret2
    exact ⟨rfl, Below.refl _ _⟩
  have hcond : (decide ((1 : Int) < (s.size : Int)) = false) ∨ (decide ((1 : Int) < (s.size : Int)) = true ∧ (((s[0]'hsz0).toNat : Int) == 48) = false) := by
    by_cases h2 : 1 < s.size
    · right; exact ⟨by simp; omega, beq_eq_false_iff_ne.2 (by rw [← hc0]; omega)⟩
    · left; simp; omega
  have hgood : l.length = 1 ∨ l[0]? ≠ some 48 := by
    by_cases h2 : 1 < s.size
    · right; rw [hb0]; intro h; injection h with h; rw [h] at hc0; exact h1 ⟨h2, hc0⟩
    · left; omega
  have HG := Lib.hid (And.intro hgood (And.intro hl hll)); clear hgood hll hl hb0 hc0 h1 h0
  rcases hcond with hcd | ⟨hcd, hcd2⟩
  all_goals
    go_enter Tryz.func78, Tryz.ntmps78
    go_wp2
    go_loopw [4, 5] (fun av kv wr => ∃ (k : Nat) (a : ByteArray), av = .string a ∧ kv = .int .i64 (k : Nat) ∧ k ≤ s.size ∧ Hid (a = NB (dval (l.take k))) ∧ Hid (∀ x ∈ l.take k, isdg x = true) ∧ Below w.heap.size w wr) (fun _ kv _ => s.size - (intOf kv).toNat)
    case atStart => exact ⟨0, _, rfl, rfl, Nat.zero_le _, Lib.hid (by rw [List.take_zero]; unfold NB; simp [nb, dval]), Lib.hid (by rw [List.take_zero]; intro x hx; cases hx), Below.refl _ _⟩
    case round =>
      clear hcd
      obtain ⟨k, a, rfl, rfl, hk, ha, hdg, hB⟩ := hrel
      by_cases hlt : k < s.size
      · have hbj := byte_at s k hlt
        rw [← HG.out.2.1] at hbj
        have hdt := dval_take l k _ hbj
        obtain ⟨c, hc⟩ : ∃ c, c = (s[k]'hlt) := ⟨_, rfl⟩
        rw [← hc] at hbj hdt
        have hc256 : c.toNat < 256 := UInt8.toNat_lt _
        by_cases hcd : isdg c = true
        · have h3 : 48 ≤ c.toNat ∧ c.toNat ≤ 57 := of_decide_eq_true hcd
          obtain ⟨d, hd⟩ : ∃ d, d = c.toNat - 48 := ⟨_, rfl⟩
          have f1 : decide (((s[k]'hlt).toNat : Int) < 48) = false := by rw [← hc]; simp; omega
          have f2 : decide ((57 : Int) < ((s[k]'hlt).toNat : Int)) = false := by rw [← hc]; simp; omega
          have f3 : IntKind.u8.wrap (((s[k]'hlt).toNat : Int) - 48) = (d : Int) := by rw [← hc, IntKind.wrap_u8]; omega
          have f4 : IntKind.i64.wrap (d : Int) = (d : Int) := IntWalk.i64_in _ ⟨by omega, by omega⟩
          have hnx := take_dg l k c hbj hcd hdg.out
          have hsa : a.size ≤ 100000 := by
            rw [ha.out]
            have := dval_size _ hdg.out
            rw [List.length_take] at this; omega
          have hsva : sv a = dval (l.take k) := by rw [ha.out, sv_NB]
          obtain ⟨v, hv⟩ : ∃ v, v = sv a := ⟨_, rfl⟩
          have hOf : ∀ (n : Nat), n < 9223372036854775808 → ∀ W, Calls Tryz.prog 34 #[.int .i64 (n : Int)] W fun e w' => e = .returned (.string (NB n)) ∧ Below W.heap.size W w' := fun n hn W => by
            have := RefOf_any W (n : Int) (by omega) (by omega)
            rwa [Int.toNat_natCast] at this
          have h10 : ∀ W, Calls Tryz.prog 34 #[.int .i64 10] W fun e w' => e = .returned (.string (NB 10)) ∧ Below W.heap.size W w' := hOf 10 (by omega)
          have hdd := hOf d (by omega)
          have hM := fun W => mulR_c W a (NB 10) (v * 10) (by rw [sv_NB, hv]) (by omega) (Nat.le_trans (NB_size (k := 1) (by omega)) (by omega))
          have hms : (NB (v * 10)).size ≤ a.size + 1 := mul10_size v a.size (by rw [hv]; exact sv_lt_size a)
          have hA : ∀ W, Calls Tryz.prog 51 #[.string (NB (v * 10)), .string (NB d)] W fun e w' => e = .returned (.string (NB (dval (l.take (k+1))))) ∧ Below W.heap.size W w' := fun W => by
            have := RefAdd_any W (NB (v * 10)) (NB d) (by omega) (Nat.le_trans (NB_size (k := 1) (by omega)) (by omega))
            rwa [sv_NB, sv_NB, show v * 10 + d = dval (l.take (k+1)) by rw [hdt, hv, hsva, hd]; omega] at this
          have HX := Lib.hid (And.intro hnx hB)
          clear hOf hms hsva hv hd h3 hdt hbj hnx hsa ha hdg hcd hc256
          go_wp2_with fail
          go_region_held3 (fun _ => True) (trivial)
            (first
              | ((first | (go_at_call 34; go_fit (h10 wr.drew)) | (go_at_call 34; go_fit (hdd wr.drew))); rintro e w5 ⟨rfl, b5⟩)
              | ((first | (go_at_call 34; go_fit (h10 w5)) | (go_at_call 34; go_fit (hdd w5)) | (go_at_call 45; go_fit (hM w5))); rintro e w6 ⟨rfl, b6⟩)
              | ((first | (go_at_call 34; go_fit (hdd w6)) | (go_at_call 45; go_fit (hM w6))); rintro e w7 ⟨rfl, b7⟩)
              | (go_at_call 51; go_fit (hA w7); rintro e w8 ⟨rfl, b8⟩))
          all_goals
            have hBn : Below w.heap.size w w8 := by
              have s5 := b5.size
              have s6 := b6.size
              have s7 := b7.size
              have s0 := HX.out.2.size
              have s1 : wr.drew.heap.size = wr.heap.size := rfl
              exact (((HX.out.2.drew.trans (b5.mono (by omega))).trans (b6.mono (by omega))).trans (b7.mono (by omega))).trans (b8.mono (by omega))
            clear b5 b6 b7 b8 h10 hdd hM hA
            go_wp2
            refine ⟨⟨k + 1, _, rfl, by go_num, by omega, Lib.hid rfl, Lib.hid HX.out.1, hBn⟩, by (simp [intOf]; try omega)⟩
        · have hP : ParseV s = .tuple #[.string ⟨#[]⟩, .bool false] := by
            unfold ParseV; rw [if_neg]
            intro h
            apply hcd
            exact h.2.1 c (by rw [← HG.out.2.1]; exact List.mem_of_getElem? hbj)
          have HP := Lib.hid hP; clear hP
          have hor : c.toNat < 48 ∨ (48 ≤ c.toNat ∧ 57 < c.toNat) := by
            by_cases h : c.toNat < 48
            · exact .inl h
            · right; refine ⟨by omega, ?_⟩
              apply Nat.lt_of_not_le; intro h2
              apply hcd; exact decide_eq_true ⟨by omega, h2⟩
          have hor2 : (decide (((s[k]'hlt).toNat : Int) < 48) = true) ∨ (decide (((s[k]'hlt).toNat : Int) < 48) = false ∧ decide ((57 : Int) < ((s[k]'hlt).toNat : Int)) = true) := by
            rw [← hc]
            rcases hor with h | h
            · left; simp; omega
            · right; constructor <;> simp <;> omega
          clear hor hcd hc hbj hdt hc256 hdg ha
          rcases hor2 with f1 | ⟨f1, f2⟩
          all_goals
            go_wp2
            go_ret2
            exact ⟨by rw [HP.out]; rfl, hB⟩
      · obtain rfl : k = s.size := by omega
        have hP : ParseV s = .tuple #[.string a, .bool true] := by
          have htk : l.take s.size = l := List.take_of_length_le (by rw [HG.out.2.2]; exact Nat.le_refl _)
          have h1 := ha.out
          have h2 := hdg.out
          rw [htk] at h1 h2
          unfold ParseV
          rw [← HG.out.2.1, if_pos, h1]
          refine ⟨fun h => ?_, h2, HG.out.1⟩
          have := HG.out.2.2; rw [h] at this; simp at this; omega
        have HP := Lib.hid hP; clear hP ha hdg
        go_wp2
        go_ret2
        exact ⟨by rw [HP.out]; rfl, hB⟩
end Go.Proofs.YteccbedmpjeamaaGreatDoor
