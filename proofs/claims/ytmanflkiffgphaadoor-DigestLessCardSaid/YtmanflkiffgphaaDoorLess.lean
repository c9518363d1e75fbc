/-
  The walks of digest.Less and of the reference's Less: the order of hashes, byte by byte.
-/
import Derived.Test.YtmanflkiffgphaaDoorLawTexts
namespace Go.Proofs.YtmanflkiffgphaaDoor
open Go.RowKit SH
/-- byte by byte less -/
def lt8 : List UInt8 → List UInt8 → Bool
  | x :: a, y :: b => if x = y then lt8 a b else decide (x.toNat < y.toNat)
  | _, _ => false
theorem lt8_same : ∀ a, lt8 a a = false
  | [] => rfl
  | x :: a => by rw [lt8, if_pos rfl, lt8_same a]
theorem gb_cons (x : UInt8) (l : List UInt8) (j : Nat) : gb (x :: l) (j+1) = gb l j := rfl
theorem lt8_at : ∀ (a b : List UInt8) (m : Nat), a.length = b.length → m < a.length → (∀ j, j < m → gb a j = gb b j) → gb a m ≠ gb b m → lt8 a b = decide (gb a m < gb b m)
  | [], _, _, _, h, _, _ => by simp at h
  | _ :: _, [], _, h, _, _, _ => by simp at h
  | x :: a, y :: b, 0, _, _, _, hne => by
    have : x ≠ y := fun e => hne (by rw [e]; rfl)
    rw [lt8, if_neg this]; rfl
  | x :: a, y :: b, m+1, hl, hm, he, hne => by
    have hxy : x = y := UInt8.toNat_inj.1 (he 0 (by omega))
    rw [lt8, if_pos hxy, lt8_at a b m (by simpa using hl) (by simpa using hm) (fun j hj => he (j+1) (by omega)) hne]; rfl
theorem first_diff : ∀ (a b : List UInt8), a.length = b.length → a ≠ b → ∃ m, m < a.length ∧ (∀ j, j < m → gb a j = gb b j) ∧ gb a m ≠ gb b m
  | [], [], _, h => absurd rfl h
  | [], _ :: _, h, _ => by simp at h
  | _ :: _, [], h, _ => by simp at h
  | x :: a, y :: b, hl, h => by
    by_cases e : x = y
    · obtain ⟨m, h1, h2, h3⟩ := first_diff a b (by simpa using hl) (fun e2 => h (by rw [e, e2]))
      refine ⟨m+1, by simpa using h1, fun j hj => ?_, h3⟩
      cases j with
      | zero => rw [e]; rfl
      | succ j => exact h2 j (by omega)
    · exact ⟨0, by simp, fun j hj => by omega, fun e2 => e (UInt8.toNat_inj.1 e2)⟩
theorem gb_ext (a b : List UInt8) (hl : a.length = b.length) (h : ∀ j, j < a.length → gb a j = gb b j) : a = b := Classical.byContradiction fun hne => by
  obtain ⟨m, h1, _, h3⟩ := first_diff a b hl hne
  exact h3 (h m h1)
set_option maxRecDepth 100000 in
set_option maxHeartbeats 2000000 in
theorem refLess_any (w : World) (la lb : List UInt8) (hla : la.length = 32) (hlb : lb.length = 32) :
    Calls Tryd.prog 23 #[hval la, hval lb] w fun e w' => e = .returned (.bool (lt8 la lb)) ∧ Below w.heap.size w w' := by
  have ts := ts_start w la lb
  obtain ⟨W0, hW0⟩ : ∃ W, (w.alloc (.cells (hcells la) 24)).alloc (.cells (hcells lb) 24) = W := ⟨_, rfl⟩
  rw [hW0] at ts
  have HK := Lib.hid (And.intro hla hlb); clear hla hlb
  have HT := Lib.hid ts; clear ts
  go_enter Tryd.func23, Tryd.ntmps23
  go_upto_region 2 with fail
  clear hW0
  go_loopw [5] (fun i wr => ∃ (k : Nat) (kk : Int), k ≤ 32 ∧ kk = (k : Nat) ∧ i = .int .i64 kk ∧ Hid (∀ j, j < k → gb la j = gb lb j) ∧ Hid (TS w la lb wr)) (fun i _ => 32 - (intOf i).toNat)
  case atStart => exact ⟨0, 0, by omega, rfl, rfl, Lib.hid (fun j hj => by omega), HT⟩
  case round =>
    clear HT
    obtain ⟨k, kk, hk, hkk, rfl, he, hT⟩ := hrel
    by_cases hlt : k < 32
    · subst hkk
      have ca := hT.out.1.cell k (by rw [HK.out.1]; exact hlt)
      have cb := hT.out.2.1.cell k (by rw [HK.out.2]; exact hlt)
      obtain ⟨x, hx⟩ : ∃ x, gb la k = x := ⟨_, rfl⟩
      obtain ⟨y, hy⟩ : ∃ y, gb lb k = y := ⟨_, rfl⟩
      rw [hx] at ca
      rw [hy] at cb
      have HX := Lib.hid (And.intro hx (And.intro hy hlt)); clear hx hy
      by_cases hxy : x = y
      · subst hxy
        go_wp2
        go_region
        go_wp2
        refine ⟨⟨k + 1, _, HX.out.2.2, by simp, rfl, Lib.hid (fun j hj => ?_), Lib.hid ⟨hT.out.1, hT.out.2.1, hT.out.2.2.drew⟩⟩, by have := HX.out.2.2; simp [intOf]; omega⟩
        by_cases e : j = k
        · rw [e, HX.out.1, HX.out.2.1]
        · exact he.out j (by omega)
      · have hb : ((x : Int) != (y : Int)) = true := by simp; omega
        have hl : lt8 la lb = decide (x < y) := by
          rw [lt8_at la lb k (by rw [HK.out.1, HK.out.2]) (by rw [HK.out.1]; exact HX.out.2.2) he.out (by rw [HX.out.1, HX.out.2.1]; exact hxy), HX.out.1, HX.out.2.1]
        have HL := Lib.hid hl; clear hl
        go_wp2
        go_region
        go_wp2
        go_region
        go_wp2
        go_ret
        exact ⟨by rw [HL.out]; rfl, hT.out.2.2.drew.drew⟩
    · obtain rfl : k = 32 := by omega
      obtain rfl : kk = 32 := by omega
      have e : la = lb := gb_ext la lb (by rw [HK.out.1, HK.out.2]) (by rw [HK.out.1]; exact he.out)
      have hl : lt8 la lb = false := by rw [e]; exact lt8_same _
      clear hkk hlt hk e
      go_wp2
      go_ret
      exact ⟨by rw [hl]; rfl, hT.out.2.2⟩
set_option maxRecDepth 100000 in
set_option maxHeartbeats 2000000 in
theorem Less_any (w : World) (la lb : List UInt8) (hla : la.length = 32) (hlb : lb.length = 32) :
    Calls Tryd.prog 22 #[hval la, hval lb] w fun e w' => e = .returned (.bool (lt8 la lb)) ∧ Below w.heap.size w w' := by
  have ts := ts_start w la lb
  have sza : Hid ((Tryd.prog.info? 24).map (·.size) = some (hcells la).size) := Lib.hid (by rw [hcells_size, hla]; exact info8T.out)
  have szb : Hid ((Tryd.prog.info? 24).map (·.size) = some (hcells lb).size) := Lib.hid (by rw [hcells_size, hlb]; exact info8T.out)
  have heq := fun W => eql_hash W la lb hla hlb
  obtain ⟨W0, hW0⟩ : ∃ W, (w.alloc (.cells (hcells la) 24)).alloc (.cells (hcells lb) 24) = W := ⟨_, rfl⟩
  rw [hW0] at ts
  have HK := Lib.hid (And.intro hla hlb); clear hla hlb
  obtain ⟨t1, t2, t3⟩ := ts
  have HT := Lib.hid (show TS w la lb W0 from ⟨t1, t2, t3⟩); clear t3
  by_cases hab : la = lb
  · have hc : (la == lb) = true := by simp [hab]
    have hl : lt8 la lb = false := by rw [hab]; exact lt8_same _
    simp only [hc] at heq
    have HL := Lib.hid hl; clear hl hc hab
    go_enter Tryd.func22, Tryd.ntmps22
    go_upto_region 1 with fail
    clear hW0
    go_wp2_with (first | (refine wpList_load_row rfl 24 (.tmp 2) rfl w.heap.size rfl 24 (hcells la) (0, 0) _ t1 Tryd.underlying24 rfl sza.out ?_) | (refine wpList_load_row rfl 24 (.tmp 3) rfl (w.heap.size + 1) rfl 24 (hcells lb) (0, 0) _ t2 Tryd.underlying24 rfl szb.out ?_))
    go_ret
    exact ⟨by rw [HL.out]; rfl, HT.out.2.2⟩
  · have hc : (la == lb) = false := by simp [hab]
    obtain ⟨m, hm⟩ := first_diff la lb (by rw [HK.out.1, HK.out.2]) hab
    simp only [hc] at heq
    have hl : lt8 la lb = decide (gb la m < gb lb m) := lt8_at la lb m (by rw [HK.out.1, HK.out.2]) hm.1 hm.2.1 hm.2.2
    have hm32 : m < 32 := by have := hm.1; have := HK.out.1; omega
    have HM0 := Lib.hid (And.intro hm (And.intro hl hm32)); clear hl hc hab hm hm32
    go_enter Tryd.func22, Tryd.ntmps22
    go_upto_region 1 with fail
    clear hW0
    go_wp2_with (first | (refine wpList_load_row rfl 24 (.tmp 2) rfl w.heap.size rfl 24 (hcells la) (0, 0) _ t1 Tryd.underlying24 rfl sza.out ?_) | (refine wpList_load_row rfl 24 (.tmp 3) rfl (w.heap.size + 1) rfl 24 (hcells lb) (0, 0) _ t2 Tryd.underlying24 rfl szb.out ?_))
    clear t1 t2 heq sza szb
    go_loopw [5] (fun i wr => ∃ (k : Nat) (kk : Int), k ≤ m ∧ kk = (k : Nat) ∧ i = .int .i64 kk ∧ Hid (TS w la lb wr)) (fun i _ => 32 - (intOf i).toNat)
    case atStart => exact ⟨0, 0, by omega, rfl, rfl, HT⟩
    case round =>
      clear HT
      obtain ⟨k, kk, hk, hkk, rfl, hT⟩ := hrel
      subst hkk
      have hk32 : k < 32 := by have := HM0.out.2.2; omega
      have ca := hT.out.1.cell k (by rw [HK.out.1]; exact hk32)
      have cb := hT.out.2.1.cell k (by rw [HK.out.2]; exact hk32)
      obtain ⟨x, hx⟩ : ∃ x, gb la k = x := ⟨_, rfl⟩
      obtain ⟨y, hy⟩ : ∃ y, gb lb k = y := ⟨_, rfl⟩
      rw [hx] at ca
      rw [hy] at cb
      by_cases hkm : k < m
      · have hxy : x = y := by rw [← hx, ← hy]; exact HM0.out.1.2.1 k hkm
        subst hxy
        have HX := Lib.hid (And.intro hkm hk32); clear hx hy hkm hk
        have z1 : (k : Int) < 32 := by omega
        go_wp2
        go_region
        go_wp2
        exact ⟨⟨k + 1, _, HX.out.1, by simp, rfl, Lib.hid ⟨hT.out.1, hT.out.2.1, hT.out.2.2.drew⟩⟩, by have := HX.out.2; simp [intOf]; omega⟩
      · obtain rfl : k = m := by omega
        have hxy : x ≠ y := by rw [← hx, ← hy]; exact HM0.out.1.2.2
        have hb : ((x : Int) == (y : Int)) = false := by simp; omega
        have hl : lt8 la lb = decide (x < y) := by rw [HM0.out.2.1, hx, hy]
        have HL := Lib.hid hl; clear hl hx hy hxy hkm hk
        have z1 : (k : Int) < 32 := by omega
        go_wp2
        go_region
        go_wp2
        go_region
        go_wp2
        go_ret
        exact ⟨by rw [HL.out]; rfl, hT.out.2.2.drew.drew⟩
end Go.Proofs.YtmanflkiffgphaaDoor
