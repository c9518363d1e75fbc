/-
  The walk of the law DealValues.
-/
import Derived.Test.YtjfbpmpdcmealaaDoorDSanW
import Derived.Test.YtjfbpmpdcmealaaDoorDRefA
import Derived.Test.YtjfbpmpdcmealaaDoorDArgs
namespace Go.Proofs.YtjfbpmpdcmealaaDoor.D7
open Go.RowKit GM SH G4 E6 D7P
/-- two slices of numbers of the call's own -/
structure TW (w : World) (B : Nat) (cv kv : Value) (C K : List Int) (W : World) : Prop where
  hB : w.heap.size ≤ B
  lt : B ≤ W.heap.size
  oc : W.ownsRow B 3 1 cv C.length (C.map (Value.int .i64))
  ok : W.ownsRow B 3 1 kv K.length (K.map (Value.int .i64))
  ne : ∀ g, cv.ownBlock = some g → kv.ownBlock ≠ some g
  b : Below w.heap.size w W
theorem TW.next {w W V : World} {B : Nat} {cv kv : Value} {C K : List Int} (h : TW w B cv kv C K W) (k : Below W.heap.size W V) : TW w B cv kv C K V :=
  ⟨h.hB, Nat.le_trans h.lt k.size, own_below h.oc k, own_below h.ok k, h.ne, h.b.trans (k.mono h.b.size)⟩
theorem TW.alloc {w W : World} {B : Nat} {cv kv : Value} {C K : List Int} (h : TW w B cv kv C K W) (o : Obj) : TW w B cv kv C K (W.alloc o) := h.next ((Below.refl _ W).alloc (Nat.le_refl _) o)
theorem TW.swap {w W : World} {B : Nat} {cv kv : Value} {C K : List Int} (h : TW w B cv kv C K W) : TW w B kv cv K C W := ⟨h.hB, h.lt, h.ok, h.oc, fun g hk hc => h.ne g hc hk, h.b⟩
theorem TW.app {w V w9 : World} {B : Nat} {cv kv : Value} {C K : List Int} (h : TW w B cv kv C K V) (x : Int) {g cap H : Nat} (hH : V.heap.size = H)
    (h1 : w9.ownsRow B 3 1 (.slice (some ⟨g, 0, none⟩) (C.length + 1) cap) (C.length + 1) (C.map (Value.int .i64) ++ [.int .i64 x])) (h2 : V.grownBy w9 cv.ownBlock) (h3 : cv.ownBlock = some g ∨ g = H) :
    TW w B (.slice (some ⟨g, 0, none⟩) (C.length + 1) cap) kv (C ++ [x]) K w9 := by
  refine ⟨h.hB, Nat.le_trans h.lt h2.size, by rw [List.length_append, List.map_append]; exact h1, h.ok.kept h2 ?_, fun k hk => ?_, h.b.grown h2 h.b.size (fun k hk => Nat.le_trans h.hB (h.oc.lt k hk).1)⟩
  · cases hb : kv.ownBlock with
    | none => exact .inl rfl
    | some k => exact .inr fun e => h.ne k e.symm hb
  · have hk : g = k := by simpa [Value.ownBlock] using hk
    subst hk
    rcases h3 with h3 | h3
    · exact h.ne g h3
    · intro e; have := (h.ok.lt g e).2; omega
set_option maxRecDepth 100000 in
set_option maxHeartbeats 8000000 in
theorem values_core (w : World) (p : Option Addr) (n c m : Nat) (l l2 CC KK : List Int) (x a b u v : Int) (hm : min n 12 = m) (hnc : n ≤ c) (hc9 : c ≤ maxLen) (hl2 : l2.length = m) (hCC : CC.length = m) (hKK : KK.length = m)
    (hcut : ∀ W : World, (Instr.sliceAt 22 (.slice p n c) none (some (.int .i64 (m : Int))) none).run Tryd.prog W = .ok (.slice p m c) W)
    (hC : Hid (∀ (j : Nat) (y : Int), l2[j]? = some y → ∃ b o, p = some ⟨b, o, none⟩ ∧ w.cell? ⟨b, o + j, none⟩ = some (.int .i64 y)))
    (S0 : Hid (∀ W, TS W → Calls Tryd.prog 5 #[] W fun e w' => e = .returned (.bool true) ∧ Below W.heap.size W w'))
    (R1 : Hid (∀ (j : Nat) (y : Int), l2[j]? = some y → ∃ z t, CC[j]? = some z ∧ KK[j]? = some t ∧ (∀ W, Calls Tryd.prog 14 #[.int .i64 y, .int .i64 1152921504606845789] W fun e w' => e = .returned (.int .i64 z) ∧ w' = W) ∧
      (∀ W, Calls Tryd.prog 13 #[.int .i64 4, .int .i64 z, .int .i64 2305843009213691579] W fun e w' => e = .returned (.int .i64 t) ∧ w' = W)))
    (V1 : Hid (∀ W, Below w.heap.size w W → Calls Tryd.prog 15 #[.slice p m c, .int .i64 x] W fun e w' => e = .returned (.int .i64 a) ∧ Below W.heap.size W w'))
    (V2 : Hid (∀ W, Below w.heap.size w W → Calls Tryd.prog 16 #[.slice p m c, .int .i64 x] W fun e w' => e = .returned (.int .i64 a) ∧ Below W.heap.size W w'))
    (A1 : Hid (∀ W, Below w.heap.size w W → Calls Tryd.prog 17 #[.slice p m c, .int .i64 x] W fun e w' => e = .returned (.int .i64 b) ∧ Below W.heap.size W w'))
    (A2 : Hid (∀ W, Below w.heap.size w W → Calls Tryd.prog 18 #[.slice p m c, .int .i64 x] W fun e w' => e = .returned (.int .i64 b) ∧ Below W.heap.size W w'))
    (A3 : Hid (∀ W q k, SL W (.slice q m k) KK → Calls Tryd.prog 17 #[.slice q m k, .int .i64 x] W fun e w' => e = .returned (.int .i64 u) ∧ Below W.heap.size W w'))
    (V3 : Hid (∀ W q k, SL W (.slice q m k) CC → Calls Tryd.prog 15 #[.slice q m k, .int .i64 x] W fun e w' => e = .returned (.int .i64 v) ∧ Below W.heap.size W w'))
    (P3 : Hid (∀ W, Calls Tryd.prog 13 #[.int .i64 4, .int .i64 v, .int .i64 2305843009213691579] W fun e w' => e = .returned (.int .i64 u) ∧ w' = W))
    (hT : TS w) : Calls Tryd.prog 4 #[.slice p n c, .int .i64 x] w fun e w' => e = .returned (.bool true) ∧ Below w.heap.size w w' := by
  obtain ⟨i0, hi, hz0, hz1, hz2⟩ := info_parts infoI
  have HT := Lib.hid hT; clear hT
  have hmi : min (n : Int) 12 = (m : Int) := by omega
  have hm12 : m ≤ 12 := by omega
  have HL := Lib.hid (And.intro hm (And.intro hnc (And.intro hc9 (And.intro hl2 (And.intro hCC hKK))))); clear hm hnc hc9 hl2 hCC hKK
  go_enter Tryd.func4, Tryd.ntmps4
  go_wp2_with fail
  refine (S0.out _ HT.out).mono ?_
  rintro e w1 ⟨rfl, b1⟩
  have HB := Lib.hid b1; clear b1 S0
  go_wp2_with fail
  clear hmi hcut
  have K0 := Lib.hid (show TW w w1.heap.size (.slice none 0 0) (.slice none 0 0) [] [] w1 from ⟨HB.out.size, Nat.le_refl _, World.ownsRow_nil _ _ _ _, World.ownsRow_nil _ _ _ _, fun g e => (by cases e), HB.out⟩)
  go_loopw [6, 7, 19] (fun c1 k1 i wr => ∃ (k : Nat) (cv kv : Value), k ≤ m ∧ c1 = cv ∧ k1 = kv ∧ i = .int .i64 (k : Int) ∧ Hid (TW w w1.heap.size cv kv (CC.take k) (KK.take k) wr)) (fun _ _ i _ => m - (match i with | .int _ i => i.toNat | _ => 0))
  case atStart => exact ⟨0, _, _, Nat.zero_le _, rfl, rfl, rfl, K0⟩
  case round =>
    clear K0
    obtain ⟨k, cv, kv, hk, rfl, rfl, rfl, HK⟩ := hrel
    by_cases hlt : k < m
    · obtain ⟨y, hy⟩ : ∃ y, l2[k]? = some y := ⟨l2[k]'(by rw [HL.out.2.2.2.1]; exact hlt), List.getElem?_eq_getElem _⟩
      obtain ⟨b, o, hp, hcy⟩ := hC.out k y hy
      obtain ⟨z, t, hz, ht, r1, r2⟩ := R1.out k y hy
      subst hp
      have hcell := (HK.out.b.cell (p := ⟨b, o + k, none⟩) (World.block_lt_of_cell? _ _ hcy)).trans hcy
      have X1 := Lib.hid r1
      have X2 := Lib.hid r2
      have hts := Lib.hid (And.intro (take_snoc CC k z hz) (And.intro (take_snoc KK k t ht) (And.intro (show (CC.take k).length = k by rw [List.length_take, HL.out.2.2.2.2.1]; omega) (show (KK.take k).length = k by rw [List.length_take, HL.out.2.2.2.2.2]; omega))))
      clear hy hcy hz ht r1 r2
      obtain ⟨lc, hlc⟩ : ∃ lc, CC.take k = lc := ⟨_, rfl⟩
      obtain ⟨lk, hlk⟩ : ∃ lk, KK.take k = lk := ⟨_, rfl⟩
      rw [hlc, hlk] at HK hts
      go_wp2_with fail
      refine (X1.out _).mono ?_
      rintro e w' ⟨rfl, rfl⟩
      have hA1 := Lib.hid (And.intro (show lc.length + 1 ≤ maxLen by have := hts.out.2.2.1; unfold maxLen; omega) (show (lc.length + 1) * 8 ≤ 140737488355328 by have := hts.out.2.2.1; omega))
      have hA2 := Lib.hid (And.intro (show lk.length + 1 ≤ maxLen by have := hts.out.2.2.2; unfold maxLen; omega) (show (lk.length + 1) * 8 ≤ 140737488355328 by have := hts.out.2.2.2; omega))
      go_wp2_with (at_builtin; refine wpList_append_lies _ rfl _ _ 22 rfl w1.heap.size 3 i0 (.int .i64 0) 1 8 Tryd.underlying22 hi hz0 hz1 hz2 rfl (by decide) _ lc.length (lc.map (Value.int .i64)) rfl (HK.out.alloc _).oc ⟨w'.heap.size, 0, none⟩ 1 1 [.int .i64 z] rfl rfl (news_one _ _ _) (by simp [Value.oneCell']) Nat.zero_lt_one hA1.out.1 hA1.out.2 (HK.out.alloc _).lt _ rfl ?_; intro g9 c9 w9 hown9 hgrow9 hat9 hlt9)
      have K9 := Lib.hid ((HK.out.alloc _).app z rfl hown9 hgrow9 hat9)
      clear HK hown9 hgrow9 hat9 hlt9 X1
      go_wp2_with fail
      refine (X2.out _).mono ?_
      rintro e w2 ⟨rfl, rfl⟩
      go_wp2_with (at_builtin; refine wpList_append_lies _ rfl _ _ 22 rfl w1.heap.size 3 i0 (.int .i64 0) 1 8 Tryd.underlying22 hi hz0 hz1 hz2 rfl (by decide) _ lk.length (lk.map (Value.int .i64)) rfl (K9.out.alloc _).ok ⟨w2.heap.size, 0, none⟩ 1 1 [.int .i64 t] rfl rfl (news_one _ _ _) (by simp [Value.oneCell']) Nat.zero_lt_one hA2.out.1 hA2.out.2 (K9.out.alloc _).lt _ rfl ?_; intro g7 c7 w7 hown7 hgrow7 hat7 hlt7)
      have K7 := Lib.hid (show TW w w1.heap.size _ _ (CC.take (k+1)) (KK.take (k+1)) _ by rw [hts.out.1, hts.out.2.1]; exact (((K9.out.alloc _).swap.app t rfl hown7 hgrow7 hat7)).swap)
      clear K9 hown7 hgrow7 hat7 hlt7 X2
      go_wp2
      exact ⟨⟨k + 1, _, _, by omega, rfl, rfl, by go_num, K7⟩, by simp; omega⟩
    · obtain rfl : k = m := by omega
      rw [show CC.take k = CC from List.take_of_length_le (by rw [HL.out.2.2.2.2.1]; exact Nat.le_refl _), show KK.take k = KK from List.take_of_length_le (by rw [HL.out.2.2.2.2.2]; exact Nat.le_refl _)] at HK
      have hcv := own_nil _ HK.out.oc
      have hkv := own_nil _ HK.out.ok
      rw [HL.out.2.2.2.2.1] at hcv
      rw [HL.out.2.2.2.2.2] at hkv
      obtain ⟨cp, cc, rfl⟩ := hcv
      obtain ⟨kp, kc, rfl⟩ := hkv
      clear R1 hC
      go_wp2_with fail
      refine (V1.out _ HK.out.b).mono ?_
      rintro e w2 ⟨rfl, b⟩
      have H2 := Lib.hid (HK.out.next b); clear b HK
      go_wp2_with fail
      refine (V2.out _ H2.out.b).mono ?_
      rintro e w3 ⟨rfl, b⟩
      have H3 := Lib.hid (H2.out.next b); clear b H2
      go_wp2_with fail
      refine (A1.out _ H3.out.b).mono ?_
      rintro e w4 ⟨rfl, b⟩
      have H4 := Lib.hid (H3.out.next b); clear b H3
      go_wp2_with fail
      refine (A2.out _ H4.out.b).mono ?_
      rintro e w5 ⟨rfl, b⟩
      have H5 := Lib.hid (H4.out.next b); clear b H4
      go_wp2_with fail
      refine (A3.out _ _ _ (own_VL H5.out.ok)).mono ?_
      rintro e w6 ⟨rfl, b⟩
      have H6 := Lib.hid (H5.out.next b); clear b H5
      go_wp2_with fail
      refine (V3.out _ _ _ (own_VL H6.out.oc)).mono ?_
      rintro e w7 ⟨rfl, b⟩
      have H7 := Lib.hid (H6.out.next b); clear b H6
      go_wp2_with fail
      refine (P3.out _).mono ?_
      rintro e w8 ⟨rfl, rfl⟩
      go_wp2
      go_ret
      exact ⟨rfl, H7.out.b⟩
theorem min_take {α : Type} (l : List α) (n : Nat) (h : l.length = n) : (l.take 12).length = min n 12 := by rw [List.length_take, h, Nat.min_comm]
theorem values_walk (w : World) (p : Option Addr) (n c : Nat) (l : List Int) (x : Int) (hl : l.length = n) (hnc : n ≤ c) (hc9 : c ≤ maxLen) (hV : SL w (.slice p n c) l) (hr : ∀ y ∈ l, i64 y) (hx : i64 x)
    (hcut : ∀ W : World, (Instr.sliceAt 22 (.slice p n c) none (some (.int .i64 ((min n 12 : Nat) : Int))) none).run Tryd.prog W = .ok (.slice p (min n 12) c) W) (hT : TS w) :
    Calls Tryd.prog 4 #[.slice p n c, .int .i64 x] w fun e w' => e = .returned (.bool true) ∧ Below w.heap.size w w' := by
  obtain ⟨p', c', h1, hc⟩ := hV.form
  injection h1 with h2 h3 h4
  subst h2 h4
  have hC : ∀ (j : Nat) (y : Int), (l.take 12)[j]? = some y → ∃ b o, p = some ⟨b, o, none⟩ ∧ w.cell? ⟨b, o + j, none⟩ = some (.int .i64 y) := fun j y hj => by
    have hj12 : j < 12 := by have := (List.getElem?_eq_some_iff.1 hj).1; rw [List.length_take] at this; omega
    rw [List.getElem?_take_of_lt hj12] at hj
    exact hc j y hj
  have hV2 : SL w (.slice p (min n 12) c) (l.take 12) := ⟨p, c, by rw [List.length_map, min_take l n hl], fun j x hj => by
    rw [List.getElem?_map] at hj
    cases hk : (l.take 12)[j]? with
    | none => rw [hk] at hj; simp at hj
    | some y => rw [hk] at hj; simp at hj; subst hj; exact hC j y hk⟩
  have hr2 : ∀ y ∈ l.take 12, i64 y := fun y hy => hr y (List.mem_of_mem_take hy)
  have hn2 : (l.take 12).length ≤ 1000000000 := by rw [List.length_take]; omega
  have hcc : ∀ y ∈ (l.take 12).map (· % 1152921504606845789), 0 ≤ y ∧ i64 y := fun y hy => by
    obtain ⟨z, _, rfl⟩ := List.mem_map.1 hy
    exact ⟨Int.emod_nonneg _ (by decide), mQ_i64 z⟩
  refine values_core w p n c (min n 12) l (l.take 12) ((l.take 12).map (· % 1152921504606845789)) (((l.take 12).map (· % 1152921504606845789)).map (pp 4)) x (vl (l.take 12) x) (av (l.take 12) x)
    (pp 4 (vl ((l.take 12).map (· % 1152921504606845789)) x)) (vl ((l.take 12).map (· % 1152921504606845789)) x) rfl hnc hc9 (min_take l n hl) (by rw [List.length_map, min_take l n hl]) (by rw [List.length_map, List.length_map, min_take l n hl]) hcut (Lib.hid hC)
    (Lib.hid fun W h => sanity_any W h) (Lib.hid fun j y hj => ⟨y % 1152921504606845789, pp 4 (y % 1152921504606845789), by rw [List.getElem?_map, hj]; rfl, by rw [List.getElem?_map, List.getElem?_map, hj]; rfl, fun W => refResidue_any W y _ (hr2 y (List.mem_of_getElem? hj)).1 (hr2 y (List.mem_of_getElem? hj)).2 (by decide) (by decide), fun W => refPow_w W 4 _ _ _ rfl (by decide) (mQ_i64 y).2 (by decide)⟩)
    (Lib.hid fun W b => Value_any W _ _ x (hV2.below b) hr2 hx hn2) (Lib.hid fun W b => refValue_any W _ _ x (hV2.below b) hr2 hx hn2) (Lib.hid fun W b => At_any W _ _ x (hV2.below b) hr2 hx hn2) (Lib.hid fun W b => refAt_any W _ _ x (hV2.below b) hr2 hx hn2)
    (Lib.hid fun W q k h => ?_) (Lib.hid fun W q k h => Value_any W _ _ x h (fun y hy => (hcc y hy).2) hx (by rw [List.length_map]; exact hn2)) (Lib.hid fun W => refPow_w W 4 _ _ _ rfl (by decide) (vl_i64 _ _).2 (by decide)) hT
  have := At_any W _ _ x h (pp4_i _) hx (by rw [List.length_map, List.length_map]; exact hn2)
  rwa [av_pow _ x (fun y hy => (hcc y hy).1)] at this
theorem values_law (w : World) (v : Value) (l : List Int) (x : Int) (hl : AL w v l) (hx : i64 x) (hT : TS w) :
    Calls Tryd.prog 4 #[v, .int .i64 x] w fun e w' => e = .returned (.bool true) ∧ Below w.heap.size w w' := by
  have hl2 := hl
  obtain ⟨p, n, c, rfl, h1, h2, h3, h4, h5, h6⟩ := hl
  exact values_walk w p n c l x h1 h2 h3 h4 h5 hx (fun V => hl2.cut (min n 12) (Nat.min_le_left _ _) V) hT
end Go.Proofs.YtjfbpmpdcmealaaDoor.D7
