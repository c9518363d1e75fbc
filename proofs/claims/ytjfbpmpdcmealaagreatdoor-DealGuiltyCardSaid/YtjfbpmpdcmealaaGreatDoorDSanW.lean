/-
  The walk of the laws' sanity: the document's examples.
  The laws' sanity holds.
-/
import Derived.Test.YtjfbpmpdcmealaaGreatDoorDText
import Derived.Test.YtjfbpmpdcmealaaGreatDoorDDealNo
import Derived.Test.YtjfbpmpdcmealaaGreatDoorDMath
import Derived.Test.YtjfbpmpdcmealaaGreatDoorGRefB
namespace Go.Proofs.YtjfbpmpdcmealaaGreatDoor.D7
open Go.RowKit GM SH G4 E6 D7P
/-- the digits of a number of at most k digits -/
def dgt : Nat → Nat → List UInt8
  | 0, _ => []
  | k+1, n => if n < 10 then [UInt8.ofNat (48 + n)] else dgt k (n / 10) ++ [UInt8.ofNat (48 + n % 10)]
theorem dgt_eq : ∀ (k n : Nat), 0 < k → n < 10^k → dgt k n = Lib.decDigits n
  | 0, _, h, _ => by omega
  | k+1, n, _, hn => by
    rw [dgt, Lib.decDigits]
    split
    · rfl
    · rename_i h
      have hk : 0 < k := by
        rcases Nat.eq_zero_or_pos k with h0 | h0
        · subst h0; simp at hn; omega
        · exact h0
      rw [dgt_eq k (n / 10) hk (by rw [Nat.pow_succ] at hn; omega)]
theorem dcm_dgt (n : Nat) (h : n < 10^20) : (dcm (n : Int)).data.toList = dgt 20 n := by
  rw [dgt_eq 20 n (by decide) h]
  unfold dcm Lib.itoa
  rw [if_neg (by omega), Int.toNat_natCast]
theorem sl_new (w W : World) (b n : Nat) (l : List Int) (hn : l.length = n) (fr : Nat × Nat) (t : TypeId) (h : W.heap[b]? = some (.cells (l.map (Value.int .i64)).toArray t fr)) : SL W (.slice (some ⟨b, 0, none⟩) n n) l := by
  refine VL.at W b n n _ (by rw [List.length_map]; exact hn) (fun j x hj => ?_)
  rw [cell_of_row W b j _ _ _ h]; simpa using hj
theorem zl_new (W : World) (b n : Nat) (l : List ByteArray) (hn : l.length = n) (fr : Nat × Nat) (t : TypeId) (h : W.heap[b]? = some (.cells (l.map Value.string).toArray t fr)) : ZL W (.slice (some ⟨b, 0, none⟩) n n) l := by
  refine VL.at W b n n _ (by rw [List.length_map]; exact hn) (fun j x hj => ?_)
  rw [cell_of_row W b j _ _ _ h]; simpa using hj
abbrev key9 : Int := pp 4 9
theorem key9_mem : mem key9 = true := pp_mem ((mem_iff 4).2 mem_four) 9 (by decide)
theorem mem_two : mem 2 = false := by
  unfold mem
  rw [pow_2]; decide
def sA : ByteArray := ⟨#[115]⟩
set_option maxRecDepth 100000 in
set_option maxHeartbeats 8000000 in
theorem san_core (w : World) (key pt : Int) (CC : List Int) (BB : List ByteArray) (hCC : CC.length = 2) (hBB : BB.length = 3)
    (P0 : Hid (∀ W, Calls Tryz.prog 28 #[.int .i64 4, .int .i64 9, .int .i64 2305843009213691579] W fun e w' => e = .returned (.int .i64 key) ∧ Below W.heap.size W w'))
    (D1 : Hid (∀ W, TS W → Calls Tryz.prog 11 #[.slice (some ⟨W.heap.size, 0, none⟩) 2 2, .slice (some ⟨W.heap.size + 1, 0, none⟩) 1 1, .string ⟨#[115]⟩] ((W.alloc (.cells #[.int .i64 1, .int .i64 2] 3)).alloc (.cells #[.int .i64 key] 3)) fun e w' => e = .returned (.tuple #[.agg #[.slice none 0 0, .int .i64 0, .slice none 0 0], .bool false]) ∧ Below W.heap.size W w'))
    (D2 : Hid (∀ W, TS W → Calls Tryz.prog 11 #[.slice (some ⟨W.heap.size, 0, none⟩) 1 1, .slice (some ⟨W.heap.size + 1, 0, none⟩) 1 1, .string ⟨#[115]⟩] ((W.alloc (.cells #[.int .i64 1] 3)).alloc (.cells #[.int .i64 2] 3)) fun e w' => e = .returned (.tuple #[.agg #[.slice none 0 0, .int .i64 0, .slice none 0 0], .bool false]) ∧ Below W.heap.size W w'))
    (D3 : Hid (∀ W, TS W → Calls Tryz.prog 11 #[.slice (some ⟨W.heap.size, 0, none⟩) 2 2, .slice (some ⟨W.heap.size + 1, 0, none⟩) 3 3, .string ⟨#[115]⟩] ((W.alloc (.cells #[.int .i64 3, .int .i64 5] 3)).alloc (.cells #[.int .i64 key, .int .i64 key, .int .i64 key] 3)) fun e w' => ∃ p c q m, e = .returned (.tuple #[.agg #[.slice p 2 c, .int .i64 pt, .slice q 3 m], .bool true]) ∧ Below W.heap.size W w' ∧ SL w' (.slice p 2 c) CC ∧ ZL w' (.slice q 3 m) BB))
    (O1 : Hid (∀ W p c q m, Calls Tryz.prog 26 #[.int .i64 9, .agg #[.slice p 2 c, .int .i64 pt, .slice q 3 m], .int .i64 5] W fun e w' => e = .returned (.tuple #[.agg #[.int .i64 0, .int .i64 0], .bool false]) ∧ Below W.heap.size W w'))
    (O2 : Hid (∀ W p c q m, TS W → SL W (.slice p 2 c) CC → ZL W (.slice q 3 m) BB → Calls Tryz.prog 26 #[.int .i64 9, .agg #[.slice p 2 c, .int .i64 pt, .slice q 3 m], .int .i64 1] W fun e w' => e = .returned (.tuple #[.agg #[.int .i64 2, .int .i64 13], .bool true]) ∧ Below W.heap.size W w'))
    (V1 : Hid (∀ W, Calls Tryz.prog 29 #[.slice (some ⟨W.heap.size, 0, none⟩) 3 3, .int .i64 2] (W.alloc (.cells #[.int .i64 3, .int .i64 5, .int .i64 1] 3)) fun e w' => e = .returned (.int .i64 17) ∧ Below W.heap.size W w'))
    (V2 : Hid (∀ W, Calls Tryz.prog 29 #[.slice (some ⟨W.heap.size, 0, none⟩) 3 3, .int .i64 0] (W.alloc (.cells #[.int .i64 3, .int .i64 5, .int .i64 1] 3)) fun e w' => e = .returned (.int .i64 3) ∧ Below W.heap.size W w'))
    (A0 : Hid (∀ W, Calls Tryz.prog 30 #[.slice none 0 0, .int .i64 7] W fun e w' => e = .returned (.int .i64 1) ∧ Below W.heap.size W w'))
    (A1 : Hid (∀ W, Calls Tryz.prog 30 #[.slice (some ⟨W.heap.size, 0, none⟩) 1 1, .int .i64 7] (W.alloc (.cells #[.int .i64 4] 3)) fun e w' => e = .returned (.int .i64 4) ∧ Below W.heap.size W w'))
    (X1 : Hid (∀ W, TS W → Calls Tryz.prog 19 #[.agg #[.slice (some ⟨W.heap.size, 0, none⟩) 2 2, .int .i64 64, .slice (some ⟨W.heap.size + 1, 0, none⟩) 2 2]] ((W.alloc (.cells #[.int .i64 4, .int .i64 16] 3)).alloc (.cells #[.string ⟨#[97]⟩, .string ⟨#[]⟩] 9)) fun e w' => e = .returned (.string ⟨#[100, 101, 97, 108, 32, 50, 32, 52, 32, 49, 54, 32, 54, 52, 32, 54, 49, 32]⟩) ∧ Below W.heap.size W w'))
    (hT : TS w) : Calls Tryz.prog 8 #[] w fun e w' => e = .returned (.bool true) ∧ Below w.heap.size w w' := by
  have HB0 := Lib.hid (And.intro (Below.refl w.heap.size w) hT); clear hT
  go_enter Tryz.func8, Tryz.ntmps8
  go_wp2_with fail
  refine (P0.out _).mono ?_
  rintro e w1 ⟨rfl, b⟩
  have HB1 := Lib.hid (And.intro (HB0.out.1.trans (b.mono HB0.out.1.size)) (HB0.out.2.below b)); clear b HB0 P0
  go_wp2_with fail
  refine (D1.out _ HB1.out.2).mono ?_
  rintro e w2 ⟨rfl, b⟩
  have HB2 := Lib.hid (And.intro (HB1.out.1.trans (b.mono HB1.out.1.size)) (HB1.out.2.below b)); clear b HB1 D1
  go_upto_region 3 with fail
  have b3 := (Below.refl _ w2).alloc (Nat.le_refl _) (.cells #[.slice none 0 0, .int .i64 0, .slice none 0 0] 34)
  have HB3 := Lib.hid (And.intro (HB2.out.1.trans (b3.mono HB2.out.1.size)) (HB2.out.2.below b3)); clear b3 HB2
  generalize w2.alloc (.cells #[.slice none 0 0, .int .i64 0, .slice none 0 0] 34) = w3 at *
  go_wp2_with fail
  refine (D2.out _ HB3.out.2).mono ?_
  rintro e w4 ⟨rfl, b⟩
  have HB4 := Lib.hid (And.intro (HB3.out.1.trans (b.mono HB3.out.1.size)) (HB3.out.2.below b)); clear b HB3 D2
  go_upto_region 4 with fail
  have b5 := (Below.refl _ w4).alloc (Nat.le_refl _) (.cells #[.slice none 0 0, .int .i64 0, .slice none 0 0] 34)
  have HB5 := Lib.hid (And.intro (HB4.out.1.trans (b5.mono HB4.out.1.size)) (HB4.out.2.below b5)); clear b5 HB4
  generalize w4.alloc (.cells #[.slice none 0 0, .int .i64 0, .slice none 0 0] 34) = w5 at *
  go_wp2_with fail
  refine (D3.out _ HB5.out.2).mono ?_
  rintro e w6 ⟨p, c, q, m, rfl, b, hC, hB⟩
  have HB6 := Lib.hid (And.intro (HB5.out.1.trans (b.mono HB5.out.1.size)) (HB5.out.2.below b)); clear b HB5 D3
  have HL := Lib.hid (And.intro hC hB); clear hC hB
  go_upto_region 5 with fail
  have b7 := (Below.refl _ w6).alloc (Nat.le_refl _) (.cells #[.slice p 2 c, .int .i64 pt, .slice q 3 m] 34)
  have HB7 := Lib.hid (And.intro (HB6.out.1.trans (b7.mono HB6.out.1.size)) (HB6.out.2.below b7))
  have HL7 := Lib.hid (And.intro (HL.out.1.below b7) (HL.out.2.below b7))
  have hr7 := heap_alloc_new w6 (.cells #[.slice p 2 c, .int .i64 pt, .slice q 3 m] 34)
  clear b7 HB6 HL
  generalize w6.alloc (.cells #[.slice p 2 c, .int .i64 pt, .slice q 3 m] 34) = w7 at *
  obtain ⟨d, hd⟩ : ∃ d, w6.heap.size = d := ⟨_, rfl⟩
  rw [hd] at hr7
  have hd := Lib.hid hd
  rw [hd.out]
  have c0 : w7.cell? ⟨d, 0, none⟩ = some (.slice p 2 c) := cell_of_row _ _ 0 _ _ _ hr7
  have c1 : w7.cell? ⟨d, 1, none⟩ = some (.int .i64 pt) := cell_of_row _ _ 1 _ _ _ hr7
  have c2 : w7.cell? ⟨d, 2, none⟩ = some (.slice q 3 m) := cell_of_row _ _ 2 _ _ _ hr7
  have HR7 := Lib.hid hr7; clear hr7
  go_wp2_with fail
  refine (O1.out _ _ _ _ _).mono ?_
  rintro e w8 ⟨rfl, b⟩
  have b9 := b.trans ((Below.refl _ w8).alloc b.size (.cells #[.int .i64 0, .int .i64 0] 55))
  clear c0 c1 c2
  have HB8 := Lib.hid (And.intro (HB7.out.1.trans (b9.mono HB7.out.1.size)) (HB7.out.2.below b9))
  have HL8 := Lib.hid (And.intro (HL7.out.1.below b9) (HL7.out.2.below b9))
  have hr8 := (b9.block _ (Array.getElem?_eq_some_iff.1 HR7.out).1).trans HR7.out
  clear b9 b HB7 HL7 HR7 O1
  go_upto_region 6 with fail
  generalize w8.alloc (.cells #[.int .i64 0, .int .i64 0] 55) = w9 at *
  have c0 : w9.cell? ⟨d, 0, none⟩ = some (.slice p 2 c) := cell_of_row _ _ 0 _ _ _ hr8
  have c1 : w9.cell? ⟨d, 1, none⟩ = some (.int .i64 pt) := cell_of_row _ _ 1 _ _ _ hr8
  have c2 : w9.cell? ⟨d, 2, none⟩ = some (.slice q 3 m) := cell_of_row _ _ 2 _ _ _ hr8
  clear hr8
  go_wp2_with fail
  refine (O2.out _ _ _ _ _ HB8.out.2 HL8.out.1 HL8.out.2).mono ?_
  rintro e wa ⟨rfl, b⟩
  have b9 := b.trans ((Below.refl _ wa).alloc b.size (.cells #[.int .i64 2, .int .i64 13] 55))
  clear c0 c1 c2
  have HBa := Lib.hid (And.intro (HB8.out.1.trans (b9.mono HB8.out.1.size)) (HB8.out.2.below b9))
  have hra := heap_alloc_new wa (.cells #[.int .i64 2, .int .i64 13] 55)
  clear b9 b HB8 HL8 O2
  go_upto_region 7 with fail
  generalize wa.alloc (.cells #[.int .i64 2, .int .i64 13] 55) = wb at *
  obtain ⟨s, hs⟩ : ∃ s, wa.heap.size = s := ⟨_, rfl⟩
  rw [hs] at hra
  have hs := Lib.hid hs
  rw [hs.out]
  have HR := Lib.hid hra; clear hra
  go_wp2_with fail
  refine (V1.out _).mono ?_
  rintro e wc ⟨rfl, b⟩
  have HBc := Lib.hid (And.intro (HBa.out.1.trans (b.mono HBa.out.1.size)) (HBa.out.2.below b))
  have HRc := Lib.hid ((b.block _ (Array.getElem?_eq_some_iff.1 HR.out).1).trans HR.out); clear b HBa HR V1
  go_wp2_with fail
  refine (V2.out _).mono ?_
  rintro e wd ⟨rfl, b⟩
  have HBd := Lib.hid (And.intro (HBc.out.1.trans (b.mono HBc.out.1.size)) (HBc.out.2.below b))
  have HRd := Lib.hid ((b.block _ (Array.getElem?_eq_some_iff.1 HRc.out).1).trans HRc.out); clear b HBc HRc V2
  go_wp2_with fail
  refine (A0.out _).mono ?_
  rintro e we ⟨rfl, b⟩
  have HBe := Lib.hid (And.intro (HBd.out.1.trans (b.mono HBd.out.1.size)) (HBd.out.2.below b))
  have HRe := Lib.hid ((b.block _ (Array.getElem?_eq_some_iff.1 HRd.out).1).trans HRd.out); clear b HBd HRd A0
  go_wp2_with fail
  refine (A1.out _).mono ?_
  rintro e wf ⟨rfl, b⟩
  have HBf := Lib.hid (And.intro (HBe.out.1.trans (b.mono HBe.out.1.size)) (HBe.out.2.below b))
  have hrf := (b.block _ (Array.getElem?_eq_some_iff.1 HRe.out).1).trans HRe.out; clear b HBe HRe A1
  have c0 : wf.cell? ⟨s, 0, none⟩ = some (.int .i64 2) := cell_of_row _ _ 0 _ _ _ hrf
  have c1 : wf.cell? ⟨s, 1, none⟩ = some (.int .i64 13) := cell_of_row _ _ 1 _ _ _ hrf
  clear hrf
  go_wp2_with fail
  refine (X1.out _ HBf.out.2).mono ?_
  rintro e wg ⟨rfl, b⟩
  have HBg := Lib.hid (HBf.out.1.trans (b.mono HBf.out.1.size)); clear b HBf X1 c0 c1
  go_wp2
  go_ret
  exact ⟨rfl, HBg.out⟩
end Go.Proofs.YtjfbpmpdcmealaaGreatDoor.D7
namespace Go.Proofs.YtjfbpmpdcmealaaGreatDoor.D7
open Go.RowKit GM SH G4 E6 D7P
theorem refPow_c (W : World) (a n m r : Int) (h : gp a n m = r) (ha : i64 a) (hn : n ≤ 9223372036854775807) (hm2 : m ≤ 9223372036854775807) :
    Calls Tryz.prog 28 #[.int .i64 a, .int .i64 n, .int .i64 m] W fun e w' => e = .returned (.int .i64 r) ∧ Below W.heap.size W w' := by
  subst h; exact (refPow_any W a n m ha.1 ha.2 hn hm2).mono fun e w' h => ⟨h.1, by rw [h.2]; exact Below.refl _ _⟩
theorem below_two {W w' : World} (a b : Obj) (h : Below ((W.alloc a).alloc b).heap.size ((W.alloc a).alloc b) w') : Below W.heap.size W w' :=
  (((Below.refl _ W).alloc (Nat.le_refl _) a).alloc (by simp) b).trans (h.mono (by simp; omega))
theorem below_one {W w' : World} (a : Obj) (h : Below (W.alloc a).heap.size (W.alloc a) w') : Below W.heap.size W w' :=
  ((Below.refl _ W).alloc (Nat.le_refl _) a).trans (h.mono (by simp))
theorem ts_two {W : World} (h : TS W) (a b : Obj) : TS ((W.alloc a).alloc b) := (h.below ((Below.refl _ W).alloc (Nat.le_refl _) a)).below ((Below.refl _ _).alloc (Nat.le_refl _) b)
theorem sl_first (W : World) (l : List Int) (n : Nat) (hn : l.length = n) (t : TypeId) (o : Obj) : SL ((W.alloc (.cells (l.map (Value.int .i64)).toArray t)).alloc o) (.slice (some ⟨W.heap.size, 0, none⟩) n n) l :=
  sl_new W _ W.heap.size n l hn (0, 0) t ((heap_alloc_old _ _ (by simp)).trans (heap_alloc_new W _))
theorem sl_second (W : World) (l : List Int) (n : Nat) (hn : l.length = n) (t : TypeId) (o : Obj) : SL ((W.alloc o).alloc (.cells (l.map (Value.int .i64)).toArray t)) (.slice (some ⟨W.heap.size + 1, 0, none⟩) n n) l :=
  sl_new W _ (W.heap.size + 1) n l hn (0, 0) t (by have := heap_alloc_new (W.alloc o) (.cells (l.map (Value.int .i64)).toArray t); rwa [World.size_alloc] at this)
theorem zl_second (W : World) (l : List ByteArray) (n : Nat) (hn : l.length = n) (t : TypeId) (o : Obj) : ZL ((W.alloc o).alloc (.cells (l.map Value.string).toArray t)) (.slice (some ⟨W.heap.size + 1, 0, none⟩) n n) l :=
  zl_new _ (W.heap.size + 1) n l hn (0, 0) t (by have := heap_alloc_new (W.alloc o) (.cells (l.map Value.string).toArray t); rwa [World.size_alloc] at this)
theorem sl_one (W : World) (l : List Int) (n : Nat) (hn : l.length = n) (t : TypeId) : SL (W.alloc (.cells (l.map (Value.int .i64)).toArray t)) (.slice (some ⟨W.heap.size, 0, none⟩) n n) l :=
  sl_new W _ W.heap.size n l hn (0, 0) t (heap_alloc_new W _)
theorem key9_i64 : i64 key9 := pp_i _ _
theorem three_keys : ∀ x ∈ [key9, key9, key9], i64 x := fun x hx => by
  simp only [List.mem_cons, List.not_mem_nil, or_false] at hx
  rcases hx with rfl | rfl | rfl <;> exact key9_i64
/-- what Deal answers, with slices that are read -/
theorem dealt_forms {w w' : World} {C : List Int} {pt : Int} {B : List ByteArray} {e : Ending} (h : DealtQ w C pt B e w') : ∃ p c q m, e = .returned (.tuple #[.agg #[.slice p C.length c, .int .i64 pt, .slice q B.length m], .bool true]) ∧ Below w.heap.size w w' ∧ SL w' (.slice p C.length c) C ∧ ZL w' (.slice q B.length m) B ∧
    w'.ownsRow w.heap.size 3 1 (.slice p C.length c) C.length (C.map (Value.int .i64)) ∧ w'.ownsRow w.heap.size 9 1 (.slice q B.length m) B.length (B.map Value.string) ∧ (∀ g, Value.ownBlock (.slice p C.length c) = some g → Value.ownBlock (.slice q B.length m) ≠ some g) := by
  obtain ⟨cv, bv, rfl, oc, ob, ne, b⟩ := h
  obtain ⟨p, c, rfl⟩ := own_nil cv oc
  obtain ⟨q, m, rfl⟩ := own_nil bv ob
  exact ⟨p, c, q, m, rfl, b, own_VL oc, own_VL ob, oc, ob, ne⟩
theorem pp4_i (l : List Int) : ∀ y ∈ l.map (pp 4), i64 y := fun y hy => by
  obtain ⟨x, _, rfl⟩ := List.mem_map.1 hy
  exact pp_i _ _
theorem dbs_get (coefs keys : List Int) (K : Int) (n i : Nat) (h : i < n) : (dbs coefs keys K n)[i]? = some (dbx coefs keys K i) := by
  unfold dbs; rw [List.getElem?_map, List.getElem?_range h]; rfl
/-- the owner of a key opens the box -/
theorem open_own (W : World) (sec K : Int) (i : Nat) (p q : Option Addr) (c m n l : Nat) (coefs keys : List Int) (hn : coefs.length = n) (hl : keys.length = l) (hC : SL W (.slice p n c) (coefs.map (pp 4))) (hB : ZL W (.slice q l m) (dbs coefs keys K l)) (hc : ∀ x ∈ coefs, 0 ≤ x) (hs : i64 sec) (hi : i < l) (hk : keys[i]? = some (pp 4 (ex sec))) (hK : 0 ≤ K) (hl60 : l ≤ 1000) (hn60 : n ≤ 1000) (hT : TS W) :
    Calls Tryz.prog 26 #[.int .i64 sec, .agg #[.slice p n c, .int .i64 (pp 4 K), .slice q l m], .int .i64 (i : Int)] W fun e w' => e = .returned (.tuple #[.agg #[.int .i64 ((i : Int) + 1), .int .i64 (vl coefs ((i : Int) + 1))], .bool true]) ∧ Below W.heap.size W w' := by
  have hb : dbx coefs keys K i = ⟨(bx (vl coefs ((i : Int) + 1)) (pd (pp (pp 4 (ex sec)) K) i)).toArray⟩ := by unfold dbx; rw [hk]; rfl
  have ho := tk_own coefs K (ex sec) i hK (ex_rng sec).1 hc
  have hd : (dbx coefs keys K i).data.toList = bx (vl coefs ((i : Int) + 1)) (pd (pp (pp 4 (ex sec)) K) i) := by rw [hb]
  have := Open_any W sec (pp 4 K) i p q n c l m (coefs.map (pp 4)) (dbs coefs keys K l) (dbx coefs keys K i) (dbs_get coefs keys K l i hi) hC hB (pp4_i _) (by rw [List.length_map]; omega) (by omega) hs (pp_i _ _) hT true (by rw [hd]; exact ho.1)
  rw [hd, ho.2] at this
  simp only [if_true] at this
  exact this
theorem d_one (n : Nat) (l : List UInt8) (h : n < 10^20) (hl : dgt 20 n = l) : (dcm (n : Int)).data.toList = l := (dcm_dgt n h).trans hl
theorem dtx_ex : dtx [4, 16] 64 [⟨#[97]⟩, ⟨#[]⟩] = [100, 101, 97, 108, 32, 50, 32, 52, 32, 49, 54, 32, 54, 52, 32, 54, 49, 32] := by
  have e2 : (dcm ((([4, 16] : List Int).length : Nat) : Int)).data.toList = [50] := d_one 2 _ (by decide) (by decide)
  have e4 : (dcm 4).data.toList = [52] := d_one 4 _ (by decide) (by decide)
  have e16 : (dcm 16).data.toList = [49, 54] := d_one 16 _ (by decide) (by decide)
  have e64 : (dcm 64).data.toList = [54, 52] := d_one 64 _ (by decide) (by decide)
  unfold dtx
  rw [e2, e64, show cpt [4, 16] = 32 :: (dcm 4).data.toList ++ (32 :: (dcm 16).data.toList ++ []) from rfl, e4, e16]
  rfl
theorem sanity_any (w : World) (hT : TS w) : Calls Tryz.prog 8 #[] w fun e w' => e = .returned (.bool true) ∧ Below w.heap.size w w' := by
  refine san_core w key9 (pp 4 (dk sA)) ([3, 5].map (pp 4)) (dbs [3, 5] [key9, key9, key9] (dk sA) 3) rfl (dbs_len _ _ _ _)
    (Lib.hid fun W => refPow_c W 4 9 _ key9 rfl (by decide) (by decide) (by decide))
    (Lib.hid fun W h => ?_) (Lib.hid fun W h => ?_) (Lib.hid fun W h => ?_)
    (Lib.hid fun W p c q m => Open_out W 9 5 _ p q 2 c 3 m (by decide)) (Lib.hid fun W p c q m h hC hB => ?_)
    (Lib.hid fun W => ?_) (Lib.hid fun W => ?_) (Lib.hid fun W => ?_) (Lib.hid fun W => ?_) (Lib.hid fun W h => ?_) hT
  · refine (Deal_no _ _ _ [1, 2] [key9] sA (sl_first W [1, 2] 2 rfl _ _) (sl_second W [key9] 1 rfl _ _) (by decide) (fun x hx => by rw [List.mem_singleton.1 hx]; exact key9_i64) (by decide) (show 1 ≤ 1000000000 by decide) ?_).mono fun e w' h => ⟨h.1, below_two _ _ h.2⟩
    unfold gd
    rw [show (!decide (([key9] : List Int).length < ([1, 2] : List Int).length)) = false from rfl]
    simp
  · refine (Deal_no _ _ _ [1] [2] sA (sl_first W [1] 1 rfl _ _) (sl_second W [2] 1 rfl _ _) (by decide) (by decide) (by decide) (by decide) ?_).mono fun e w' h => ⟨h.1, below_two _ _ h.2⟩
    unfold gd
    rw [show ([2] : List Int).all mem = false by rw [List.all_cons, mem_two]; rfl]
    simp
  · refine (Deal_yes _ _ _ [3, 5] [key9, key9, key9] sA (sl_first W [3, 5] 2 rfl _ _) (sl_second W [key9, key9, key9] 3 rfl _ _) (by decide) three_keys (by decide) (show 3 ≤ 60 by decide) (by decide) (show 2 ≤ 3 by decide) (by decide) (by simp only [List.all_cons, key9_mem]; rfl) (ts_two h _ _)).mono ?_
    intro e w' h
    obtain ⟨p, c, q, m, he, b, hC, hB, _⟩ := dealt_forms h
    rw [dbs_len] at he hB
    exact ⟨p, c, q, m, he, below_two _ _ b, hC, hB⟩
  · have e9 : ex 9 = 9 := ex_id 9 (by decide)
    have := open_own W 9 (dk sA) 1 p q c m 2 3 [3, 5] [key9, key9, key9] rfl rfl hC hB (by decide) (by decide) (by decide) (by rw [e9]; rfl) (dk_rng sA).1 (by decide) (by decide) h
    rw [show vl [3, 5] (((1 : Nat) : Int) + 1) = 13 by rw [vl_ev]; decide] at this
    exact this
  · have := Value_any _ _ [3, 5, 1] 2 (sl_one W [3, 5, 1] 3 rfl 3) (by decide) (by decide) (by decide)
    rw [show vl [3, 5, 1] 2 = 17 by rw [vl_ev]; decide] at this
    exact this.mono fun e w' h => ⟨h.1, below_one _ h.2⟩
  · have := Value_any _ _ [3, 5, 1] 0 (sl_one W [3, 5, 1] 3 rfl 3) (by decide) (by decide) (by decide)
    rw [show vl [3, 5, 1] 0 = 3 by rw [vl_ev]; decide] at this
    exact this.mono fun e w' h => ⟨h.1, below_one _ h.2⟩
  · exact At_any W (.slice none 0 0) [] 7 (VL.nil _ _ _) (by decide) (by decide) (by decide)
  · have := At_any _ _ [4] 7 (sl_one W [4] 1 rfl 3) (by decide) (by decide) (by decide)
    rw [show av [4] 7 = 4 by decide +kernel] at this
    exact this.mono fun e w' h => ⟨h.1, below_one _ h.2⟩
  · have := Text_any _ 64 _ _ [4, 16] [⟨#[97]⟩, ⟨#[]⟩] (sl_first W [4, 16] 2 rfl 3 _) (zl_second W [⟨#[97]⟩, ⟨#[]⟩] 2 rfl 9 _) (by decide) (by decide) (by rw [dtx_ex]; decide) (ts_two h _ _)
    rw [dtx_ex] at this
    exact this.mono fun e w' h => ⟨h.1, below_two _ _ h.2⟩
end Go.Proofs.YtjfbpmpdcmealaaGreatDoor.D7
