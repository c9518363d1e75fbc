/-
  The walks of nat.decimal and nat.value.
-/
import Derived.Test.YteccbedmpjeamaaGreatDoorDec
namespace Go.Proofs.YteccbedmpjeamaaGreatDoor
open Go.RowKit NM
theorem bytes_of (w : World) (s : ByteArray) : ∃ cap w1, (convert 9 57 (.string s)).run Tryz.prog w = .ok (.slice (some ⟨w.heap.size, 0, none⟩) s.size cap) w1 ∧ Below w.heap.size w w1 ∧ w1.heap.size = w.heap.size + 1 ∧ s.size ≤ cap ∧
    ∀ j (h : j < s.size), w1.cell? ⟨w.heap.size, j, none⟩ = some (.int .u8 ((s[j]'h).toNat : Nat)) := by
  have h := run_bytes_of_string w 9 57 5 s Tryz.underlying9 Tryz.underlying57 Tryz.underlying5
  refine ⟨_, _, h, (Below.refl _ w).drew.alloc (Nat.le_refl _) _, ?_, grownCap_ge _ _ _ _, fun j hj => ?_⟩
  · show (w.heap.push _).size = _
    simp
  · generalize grownCap w s.size 0 5 = cap
    have hh : (w.drew.alloc (.cells (bytesRow s cap) 5 ((bytesRow s cap).size, (bytesRow s cap).size + 1))).heap[w.heap.size]? = some (.cells (bytesRow s cap) 5 ((bytesRow s cap).size, (bytesRow s cap).size + 1)) := by
      show (w.heap.push _)[w.heap.size]? = _
      simp
    rw [Lib.cell_of_heap hh, bytesRow_at _ _ _ hj]
    rfl
/-- what decimal asks of the first byte -/
theorem head_cases (s : ByteArray) (l : List UInt8) (hl : l = s.data.toList) (hd : ∀ x ∈ l, isdg x = true) :
    (s.size = 0 ∧ ¬ decOK l) ∨ (s = ⟨#[48]⟩ ∧ decOK l) ∨ (∃ h : 0 < s.size, s ≠ ⟨#[48]⟩ ∧ (s[0]'h).toNat = 48 ∧ ¬ decOK l) ∨ (∃ h : 0 < s.size, s ≠ ⟨#[48]⟩ ∧ (s[0]'h).toNat ≠ 48 ∧ decOK l) := by
  have hll : l.length = s.size := by rw [hl]; exact Array.length_toList
  by_cases h0 : s.size = 0
  · left; refine ⟨h0, fun h => h.1 (List.length_eq_zero_iff.1 (show l.length = 0 by omega))⟩
  have hp : 0 < s.size := by omega
  have hb := byte_at s 0 hp
  rw [← hl] at hb
  by_cases h1 : s = ⟨#[48]⟩
  · right; left
    refine ⟨h1, fun h => ?_, hd, .inl (by rw [hll, h1]; rfl)⟩
    rw [h] at hll; simp at hll; omega
  · by_cases h2 : (s[0]'hp).toNat = 48
    · right; right; left
      refine ⟨hp, h1, h2, fun h => ?_⟩
      have e48 : (s[0]'hp) = 48 := UInt8.toNat_inj.1 h2
      rcases h.2.2 with h3 | h3
      · apply h1
        have h4 : l = [48] := by
          match l, h3, hb with
          | [x], _, hb => simp at hb; rw [hb, e48]
        cases s with
        | mk d =>
          have : d.toList = [48] := by rw [← h4, hl]
          congr 1
          exact Array.toList_inj.1 (by rw [this])
      · apply h3; rw [hb, e48]
    · right; right; right
      refine ⟨hp, h1, h2, fun h => ?_, hd, .inr ?_⟩
      · rw [h] at hll; simp at hll; omega
      · rw [hb]; intro h; injection h with h; rw [h] at h2; exact h2 rfl
set_option maxRecDepth 100000 in
set_option maxHeartbeats 8000000 in
theorem decimal_any (w : World) (s : ByteArray) (hs : s.size ≤ 100000) :
    Calls Tryz.prog 106 #[.string s] w fun e w' => e = .returned (.bool (decide (decOK s.data.toList))) ∧ Below w.heap.size w w' := by
  obtain ⟨cap, w1, hcv, hB1, hs1, hcap, hcell⟩ := bytes_of w s
  obtain ⟨l, hl⟩ : ∃ l, l = s.data.toList := ⟨_, rfl⟩
  rw [← hl]
  obtain ⟨bd, hbd⟩ : ∃ bd, bd = decide (decOK l) := ⟨_, rfl⟩
  rw [← hbd]
  have HL := Lib.hid (And.intro hl hbd); clear hl hbd
  have HCell := Lib.hid hcell; clear hcell
  have hblt : w.heap.size < w1.heap.size := by omega
  go_enter Tryz.func106, Tryz.ntmps106
  go_wp2
  go_loop [8] (fun kv => ∃ k : Nat, kv = .int .i64 (k : Nat) ∧ k ≤ s.size ∧ Hid (∀ x ∈ l.take k, isdg x = true)) (fun kv => s.size - (intOf kv).toNat)
  case atStart => exact ⟨0, rfl, Nat.zero_le _, Lib.hid (by rw [List.take_zero]; intro x hx; cases hx)⟩
  case round =>
    obtain ⟨k, rfl, hk, hdg⟩ := hrel
    by_cases hlt : k < s.size
    · have hc := HCell.out k hlt
      have hbj := byte_at s k hlt
      rw [← HL.out.1] at hbj
      by_cases hcd : isdg (s[k]'hlt) = true
      · have h3 : 48 ≤ (s[k]'hlt).toNat ∧ (s[k]'hlt).toNat ≤ 57 := of_decide_eq_true hcd
        have hnx := Lib.hid (take_dg l k _ hbj hcd hdg.out)
        generalize (s[k]'hlt).toNat = c at *
        have f1 : decide ((c : Int) < 48) = false := by simp; omega
        have f2 : decide ((57 : Int) < (c : Int)) = false := by simp; omega
        clear h3 hbj hcd hdg
        go_wp2
        refine ⟨⟨k + 1, by go_num, by omega, hnx⟩, by (simp [intOf]; try omega)⟩
      · have hbf : bd = false := by
          rw [HL.out.2]
          exact decide_eq_false fun h => hcd (h.2.1 _ (List.mem_of_getElem? hbj))
        have hor2 : (decide (((s[k]'hlt).toNat : Int) < 48) = true) ∨ (decide (((s[k]'hlt).toNat : Int) < 48) = false ∧ decide ((57 : Int) < ((s[k]'hlt).toNat : Int)) = true) := by
          by_cases h : (s[k]'hlt).toNat < 48
          · left; simp; omega
          · right
            have : 57 < (s[k]'hlt).toNat := by
              apply Nat.lt_of_not_le; intro h2
              apply hcd; exact decide_eq_true ⟨by omega, h2⟩
            constructor <;> simp <;> omega
        clear hbj hcd hdg
        generalize (s[k]'hlt).toNat = c at *
        have HBF := Lib.hid hbf; clear hbf
        rcases hor2 with f1 | ⟨f1, f2⟩
        all_goals
          go_wp2
          go_ret
          exact ⟨by rw [HBF.out]; rfl, hB1⟩
    · obtain rfl : k = s.size := by omega
      have hall : ∀ x ∈ l, isdg x = true := by
        have h := hdg.out
        rwa [List.take_of_length_le (by rw [HL.out.1]; exact Nat.le_of_eq Array.length_toList)] at h
      have hcs := head_cases s l HL.out.1 hall
      clear hall hdg
      rcases hcs with ⟨h0, hno⟩ | ⟨h1, hok⟩ | ⟨hp, hne, h48, hno⟩ | ⟨hp, hne, h48, hok⟩
      · have hbf : bd = false := by rw [HL.out.2]; exact decide_eq_false hno
        have e1 : s.toList = [] := by rw [ByteArray.toList_eq]; exact size_zero_list h0
        have e2 : (s.toList == [48]) = false := by rw [e1]; rfl
        have e3 : s.toList.isEmpty = true := by rw [e1]; rfl
        have e4 : ¬ s.toList = [48] := by rw [e1]; simp
        have HBF := Lib.hid hbf; clear hbf hno
        clear hcap HCell
        go_wp2
        go_ret
        exact ⟨by rw [HBF.out]; rfl, hB1⟩
      · have hbf : bd = true := by rw [HL.out.2]; exact decide_eq_true hok
        have e1 : s.toList = [48] := by rw [ByteArray.toList_eq, h1]
        have HBF := Lib.hid hbf; clear hbf hok h1
        go_wp2
        go_ret
        exact ⟨by rw [HBF.out]; rfl, hB1⟩
      all_goals
        have e4 : ¬ s.toList = [48] := by
          rw [ByteArray.toList_eq]; intro h; apply hne
          cases s with
          | mk d => congr 1; exact Array.toList_inj.1 (by rw [h])
        have e5 : ¬ s.toList = [] := by
          rw [ByteArray.toList_eq]; intro h
          have h6 : s.size = ([] : List UInt8).length := by rw [← h]; exact Array.length_toList.symm
          rw [List.length_nil] at h6
          omega
        have e2 : (s.toList == [48]) = false := beq_eq_false_iff_ne.2 e4
        have e3 : s.toList.isEmpty = false := by
          cases h : s.toList with
          | nil => exact absurd h e5
          | cons x y => rfl
      · have hbf : bd = false := by rw [HL.out.2]; exact decide_eq_false hno
        have HBF := Lib.hid hbf; clear hbf hno hne
        go_wp2
        go_ret
        exact ⟨by rw [HBF.out]; rfl, hB1⟩
      · have hbf : bd = true := by rw [HL.out.2]; exact decide_eq_true hok
        have HBF := Lib.hid hbf; clear hbf hok hne
        have f1 : (((s[0]'hp).toNat : Int) == 48) = false := beq_eq_false_iff_ne.2 (by omega)
        have f2 : ((s[0]'hp).toNat == 48) = false := beq_eq_false_iff_ne.2 h48
        have f3 : (((s[0]'hp).toNat : Int) != 48) = true := by rw [bne, f1]; rfl
        go_wp2
        go_ret
        exact ⟨by rw [HBF.out]; rfl, hB1⟩
set_option maxRecDepth 100000 in
set_option maxHeartbeats 4000000 in
theorem value_any (w : World) (s : ByteArray) (hs : s.size ≤ 19) (hd : ∀ x ∈ s.data.toList, isdg x = true) :
    Calls Tryz.prog 108 #[.string s] w fun e w' => e = .returned (.int .u64 (dval s.data.toList : Nat)) ∧ Below w.heap.size w w' := by
  obtain ⟨cap, w1, hcv, hB1, hs1, hcap, hcell⟩ := bytes_of w s
  obtain ⟨l, hl⟩ : ∃ l, l = s.data.toList := ⟨_, rfl⟩
  have hll : l.length = s.size := by rw [hl]; exact Array.length_toList
  rw [← hl] at hd ⊢
  have HL := Lib.hid (And.intro hl (And.intro hll hd)); clear hl hll hd
  have HCell := Lib.hid hcell; clear hcell
  go_enter Tryz.func108, Tryz.ntmps108
  go_wp2
  go_loop [3, 9] (fun nv kv => ∃ k n : Nat, nv = .int .u64 (n : Nat) ∧ kv = .int .i64 (k : Nat) ∧ k ≤ s.size ∧ Hid (n = dval (l.take k))) (fun _ kv => s.size - (intOf kv).toNat)
  case atStart => exact ⟨0, 0, rfl, rfl, Nat.zero_le _, Lib.hid (by rw [List.take_zero]; rfl)⟩
  case round =>
    obtain ⟨k, n, rfl, rfl, hk, hn⟩ := hrel
    by_cases hlt : k < s.size
    · have hc := HCell.out k hlt
      have hbj := byte_at s k hlt
      rw [← HL.out.1] at hbj
      have hcd := HL.out.2.2 _ (List.mem_of_getElem? hbj)
      have h3 : 48 ≤ (s[k]'hlt).toNat ∧ (s[k]'hlt).toNat ≤ 57 := of_decide_eq_true hcd
      have hdt := dval_take l k _ hbj
      have hbd : dval (l.take (k+1)) < 10^19 := by
        have h := dval_lt (l.take (k+1)) (fun x hx => HL.out.2.2 x (List.mem_of_mem_take hx))
        refine Nat.lt_of_lt_of_le h (Nat.pow_le_pow_right (by omega) ?_)
        rw [List.length_take]; omega
      rw [← hn.out] at hdt
      generalize (s[k]'hlt).toNat = c at *
      obtain ⟨d, hdd⟩ : ∃ d, d = c - 48 := ⟨_, rfl⟩
      obtain ⟨n2, hn2⟩ : ∃ n2, n2 = dval (l.take (k+1)) := ⟨_, rfl⟩
      rw [← hn2] at hdt hbd
      have x1 : IntKind.u8.wrap ((c : Int) - 48) = (d : Int) := by rw [IntKind.wrap_u8]; omega
      have x2 : IntKind.u64.wrap (10 * (n : Int)) = 10 * (n : Int) := by rw [IntKind.wrap_u64]; omega
      have x3 : IntKind.u64.wrap (10 * (n : Int) + (d : Int)) = (n2 : Int) := by rw [IntKind.wrap_u64]; omega
      have x4 : IntKind.u64.wrap (d : Int) = (d : Int) := by rw [IntKind.wrap_u64]; omega
      have HN2 := Lib.hid hn2
      clear hbj hcd h3 hdt hbd hdd hn2 hn
      go_wp2
      refine ⟨⟨k + 1, n2, rfl, by go_num, by omega, HN2⟩, by (simp [intOf]; try omega)⟩
    · obtain rfl : k = s.size := by omega
      have hfin : n = dval l := by rw [hn.out, List.take_of_length_le (by rw [HL.out.2.1]; exact Nat.le_refl _)]
      subst hfin
      clear hn
      go_wp2
      go_ret
      exact ⟨rfl, hB1⟩
end Go.Proofs.YteccbedmpjeamaaGreatDoor
