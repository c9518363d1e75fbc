/-
  The walk of the laws' sanity: the document's examples.
-/
import Derived.Test.YtjfbpmpdcmealaaDoorDText
import Derived.Test.YtjfbpmpdcmealaaDoorDDealNo
import Derived.Test.YtjfbpmpdcmealaaDoorDMath2
import Derived.Test.YtjfbpmpdcmealaaDoorGRefB
namespace Go.Proofs.YtjfbpmpdcmealaaDoor.D7
open Go.RowKit GM SH G4 E6 D7P
/-- the digits of a number of at most k digits -/
def dgt : Nat → Nat → List UInt8
  | 0, _ => []
  | k+1, n => if n < 10 then [UInt8.ofNat (48 + n)] else dgt k (n / 10) ++ [UInt8.ofNat (48 + n % 10)]
theorem dgt_eq : ∀ (k n : Nat), 0 < k → n < 10^k → dgt k n = Lib.decDigits n
  | 0, _, h, _ => by omega
  | k+1, n, _, hn => by
    rw [dgt, Lib.decDigits]
    split
    · rfl
    · rename_i h
      have hk : 0 < k := by
        rcases Nat.eq_zero_or_pos k with h0 | h0
        · subst h0; simp at hn; omega
        · exact h0
      rw [dgt_eq k (n / 10) hk (by rw [Nat.pow_succ] at hn; omega)]
theorem dcm_dgt (n : Nat) (h : n < 10^20) : (dcm (n : Int)).data.toList = dgt 20 n := by
  rw [dgt_eq 20 n (by decide) h]
  unfold dcm Lib.itoa
  rw [if_neg (by omega), Int.toNat_natCast]
theorem sl_new (w W : World) (b n : Nat) (l : List Int) (hn : l.length = n) (fr : Nat × Nat) (t : TypeId) (h : W.heap[b]? = some (.cells (l.map (Value.int .i64)).toArray t fr)) : SL W (.slice (some ⟨b, 0, none⟩) n n) l := by
  refine VL.at W b n n _ (by rw [List.length_map]; exact hn) (fun j x hj => ?_)
  rw [cell_of_row W b j _ _ _ h]; simpa using hj
theorem zl_new (W : World) (b n : Nat) (l : List ByteArray) (hn : l.length = n) (fr : Nat × Nat) (t : TypeId) (h : W.heap[b]? = some (.cells (l.map Value.string).toArray t fr)) : ZL W (.slice (some ⟨b, 0, none⟩) n n) l := by
  refine VL.at W b n n _ (by rw [List.length_map]; exact hn) (fun j x hj => ?_)
  rw [cell_of_row W b j _ _ _ h]; simpa using hj
abbrev key9 : Int := pp 4 9
theorem key9_mem : mem key9 = true := pp_mem ((mem_iff 4).2 mem_four) 9 (by decide)
theorem mem_two : mem 2 = false := by
  unfold mem
  rw [pow_2]; decide
def sA : ByteArray := ⟨#[115]⟩
set_option maxRecDepth 100000 in
set_option maxHeartbeats 8000000 in
theorem san_core (w : World) (key pt : Int) (CC : List Int) (BB : List ByteArray) (hCC : CC.length = 2) (hBB : BB.length = 3)
    (P0 : Hid (∀ W, Calls Tryd.prog 13 #[.int .i64 4, .int .i64 9, .int .i64 2305843009213691579] W fun e w' => e = .returned (.int .i64 key) ∧ Below W.heap.size W w'))
    (D1 : Hid (∀ W, TS W → Calls Tryd.prog 8 #[.slice (some ⟨W.heap.size, 0, none⟩) 2 2, .slice (some ⟨W.heap.size + 1, 0, none⟩) 1 1, .string ⟨#[115]⟩] ((W.alloc (.cells #[.int .i64 1, .int .i64 2] 3)).alloc (.cells #[.int .i64 key] 3)) fun e w' => e = .returned (.tuple #[.agg #[.slice none 0 0, .int .i64 0, .slice none 0 0], .bool false]) ∧ Below W.heap.size W w'))
    (D2 : Hid (∀ W, TS W → Calls Tryd.prog 8 #[.slice (some ⟨W.heap.size, 0, none⟩) 1 1, .slice (some ⟨W.heap.size + 1, 0, none⟩) 1 1, .string ⟨#[115]⟩] ((W.alloc (.cells #[.int .i64 1] 3)).alloc (.cells #[.int .i64 2] 3)) fun e w' => e = .returned (.tuple #[.agg #[.slice none 0 0, .int .i64 0, .slice none 0 0], .bool false]) ∧ Below W.heap.size W w'))
    (D3 : Hid (∀ W, TS W → Calls Tryd.prog 8 #[.slice (some ⟨W.heap.size, 0, none⟩) 2 2, .slice (some ⟨W.heap.size + 1, 0, none⟩) 3 3, .string ⟨#[115]⟩] ((W.alloc (.cells #[.int .i64 3, .int .i64 5] 3)).alloc (.cells #[.int .i64 key, .int .i64 key, .int .i64 key] 3)) fun e w' => ∃ p c q m, e = .returned (.tuple #[.agg #[.slice p 2 c, .int .i64 pt, .slice q 3 m], .bool true]) ∧ Below W.heap.size W w' ∧ SL w' (.slice p 2 c) CC ∧ ZL w' (.slice q 3 m) BB))
    (O1 : Hid (∀ W p c q m, Calls Tryd.prog 9 #[.int .i64 9, .agg #[.slice p 2 c, .int .i64 pt, .slice q 3 m], .int .i64 5] W fun e w' => e = .returned (.tuple #[.agg #[.int .i64 0, .int .i64 0], .bool false]) ∧ Below W.heap.size W w'))
    (O2 : Hid (∀ W p c q m, TS W → SL W (.slice p 2 c) CC → ZL W (.slice q 3 m) BB → Calls Tryd.prog 9 #[.int .i64 9, .agg #[.slice p 2 c, .int .i64 pt, .slice q 3 m], .int .i64 1] W fun e w' => e = .returned (.tuple #[.agg #[.int .i64 2, .int .i64 13], .bool true]) ∧ Below W.heap.size W w'))
    (V1 : Hid (∀ W, Calls Tryd.prog 15 #[.slice (some ⟨W.heap.size, 0, none⟩) 3 3, .int .i64 2] (W.alloc (.cells #[.int .i64 3, .int .i64 5, .int .i64 1] 3)) fun e w' => e = .returned (.int .i64 17) ∧ Below W.heap.size W w'))
    (V2 : Hid (∀ W, Calls Tryd.prog 15 #[.slice (some ⟨W.heap.size, 0, none⟩) 3 3, .int .i64 0] (W.alloc (.cells #[.int .i64 3, .int .i64 5, .int .i64 1] 3)) fun e w' => e = .returned (.int .i64 3) ∧ Below W.heap.size W w'))
    (A0 : Hid (∀ W, Calls Tryd.prog 17 #[.slice none 0 0, .int .i64 7] W fun e w' => e = .returned (.int .i64 1) ∧ Below W.heap.size W w'))
    (A1 : Hid (∀ W, Calls Tryd.prog 17 #[.slice (some ⟨W.heap.size, 0, none⟩) 1 1, .int .i64 7] (W.alloc (.cells #[.int .i64 4] 3)) fun e w' => e = .returned (.int .i64 4) ∧ Below W.heap.size W w'))
    (X1 : Hid (∀ W, TS W → Calls Tryd.prog 19 #[.agg #[.slice (some ⟨W.heap.size, 0, none⟩) 2 2, .int .i64 64, .slice (some ⟨W.heap.size + 1, 0, none⟩) 2 2]] ((W.alloc (.cells #[.int .i64 4, .int .i64 16] 3)).alloc (.cells #[.string ⟨#[97]⟩, .string ⟨#[]⟩] 9)) fun e w' => e = .returned (.string ⟨#[100, 101, 97, 108, 32, 50, 32, 52, 32, 49, 54, 32, 54, 52, 32, 54, 49, 32]⟩) ∧ Below W.heap.size W w'))
    (hT : TS w) : Calls Tryd.prog 5 #[] w fun e w' => e = .returned (.bool true) ∧ Below w.heap.size w w' := by
  have HB0 := Lib.hid (And.intro (Below.refl w.heap.size w) hT); clear hT
  go_enter Tryd.func5, Tryd.ntmps5
  go_wp2_with fail
  refine (P0.out _).mono ?_
  rintro e w1 ⟨rfl, b⟩
  have HB1 := Lib.hid (And.intro (HB0.out.1.trans (b.mono HB0.out.1.size)) (HB0.out.2.below b)); clear b HB0 P0
  go_wp2_with fail
  refine (D1.out _ HB1.out.2).mono ?_
  rintro e w2 ⟨rfl, b⟩
  have HB2 := Lib.hid (And.intro (HB1.out.1.trans (b.mono HB1.out.1.size)) (HB1.out.2.below b)); clear b HB1 D1
  go_upto_region 3 with fail
  have b3 := (Below.refl _ w2).alloc (Nat.le_refl _) (.cells #[.slice none 0 0, .int .i64 0, .slice none 0 0] 29)
  have HB3 := Lib.hid (And.intro (HB2.out.1.trans (b3.mono HB2.out.1.size)) (HB2.out.2.below b3)); clear b3 HB2
  generalize w2.alloc (.cells #[.slice none 0 0, .int .i64 0, .slice none 0 0] 29) = w3 at *
  go_wp2_with fail
  refine (D2.out _ HB3.out.2).mono ?_
  rintro e w4 ⟨rfl, b⟩
  have HB4 := Lib.hid (And.intro (HB3.out.1.trans (b.mono HB3.out.1.size)) (HB3.out.2.below b)); clear b HB3 D2
  go_upto_region 4 with fail
  have b5 := (Below.refl _ w4).alloc (Nat.le_refl _) (.cells #[.slice none 0 0, .int .i64 0, .slice none 0 0] 29)
  have HB5 := Lib.hid (And.intro (HB4.out.1.trans (b5.mono HB4.out.1.size)) (HB4.out.2.below b5)); clear b5 HB4
  generalize w4.alloc (.cells #[.slice none 0 0, .int .i64 0, .slice none 0 0] 29) = w5 at *
  go_wp2_with fail
  refine (D3.out _ HB5.out.2).mono ?_
  rintro e w6 ⟨p, c, q, m, rfl, b, hC, hB⟩
  have HB6 := Lib.hid (And.intro (HB5.out.1.trans (b.mono HB5.out.1.size)) (HB5.out.2.below b)); clear b HB5 D3
  have HL := Lib.hid (And.intro hC hB); clear hC hB
  go_upto_region 5 with fail
  have b7 := (Below.refl _ w6).alloc (Nat.le_refl _) (.cells #[.slice p 2 c, .int .i64 pt, .slice q 3 m] 29)
  have HB7 := Lib.hid (And.intro (HB6.out.1.trans (b7.mono HB6.out.1.size)) (HB6.out.2.below b7))
  have HL7 := Lib.hid (And.intro (HL.out.1.below b7) (HL.out.2.below b7))
  have hr7 := heap_alloc_new w6 (.cells #[.slice p 2 c, .int .i64 pt, .slice q 3 m] 29)
  clear b7 HB6 HL
  generalize w6.alloc (.cells #[.slice p 2 c, .int .i64 pt, .slice q 3 m] 29) = w7 at *
  obtain ⟨d, hd⟩ : ∃ d, w6.heap.size = d := ⟨_, rfl⟩
  rw [hd] at hr7
  have hd := Lib.hid hd
  rw [hd.out]
  have c0 : w7.cell? ⟨d, 0, none⟩ = some (.slice p 2 c) := cell_of_row _ _ 0 _ _ _ hr7
  have c1 : w7.cell? ⟨d, 1, none⟩ = some (.int .i64 pt) := cell_of_row _ _ 1 _ _ _ hr7
  have c2 : w7.cell? ⟨d, 2, none⟩ = some (.slice q 3 m) := cell_of_row _ _ 2 _ _ _ hr7
  have HR7 := Lib.hid hr7; clear hr7
  go_wp2_with fail
  refine (O1.out _ _ _ _ _).mono ?_
  rintro e w8 ⟨rfl, b⟩
  have b9 := b.trans ((Below.refl _ w8).alloc b.size (.cells #[.int .i64 0, .int .i64 0] 34))
  clear c0 c1 c2
  have HB8 := Lib.hid (And.intro (HB7.out.1.trans (b9.mono HB7.out.1.size)) (HB7.out.2.below b9))
  have HL8 := Lib.hid (And.intro (HL7.out.1.below b9) (HL7.out.2.below b9))
  have hr8 := (b9.block _ (Array.getElem?_eq_some_iff.1 HR7.out).1).trans HR7.out
  clear b9 b HB7 HL7 HR7 O1
  go_upto_region 6 with fail
  generalize w8.alloc (.cells #[.int .i64 0, .int .i64 0] 34) = w9 at *
  have c0 : w9.cell? ⟨d, 0, none⟩ = some (.slice p 2 c) := cell_of_row _ _ 0 _ _ _ hr8
  have c1 : w9.cell? ⟨d, 1, none⟩ = some (.int .i64 pt) := cell_of_row _ _ 1 _ _ _ hr8
  have c2 : w9.cell? ⟨d, 2, none⟩ = some (.slice q 3 m) := cell_of_row _ _ 2 _ _ _ hr8
  clear hr8
  go_wp2_with fail
  refine (O2.out _ _ _ _ _ HB8.out.2 HL8.out.1 HL8.out.2).mono ?_
  rintro e wa ⟨rfl, b⟩
  have b9 := b.trans ((Below.refl _ wa).alloc b.size (.cells #[.int .i64 2, .int .i64 13] 34))
  clear c0 c1 c2
  have HBa := Lib.hid (And.intro (HB8.out.1.trans (b9.mono HB8.out.1.size)) (HB8.out.2.below b9))
  have hra := heap_alloc_new wa (.cells #[.int .i64 2, .int .i64 13] 34)
  clear b9 b HB8 HL8 O2
  go_upto_region 7 with fail
  generalize wa.alloc (.cells #[.int .i64 2, .int .i64 13] 34) = wb at *
  obtain ⟨s, hs⟩ : ∃ s, wa.heap.size = s := ⟨_, rfl⟩
  rw [hs] at hra
  have hs := Lib.hid hs
  rw [hs.out]
  have HR := Lib.hid hra; clear hra
  go_wp2_with fail
  refine (V1.out _).mono ?_
  rintro e wc ⟨rfl, b⟩
  have HBc := Lib.hid (And.intro (HBa.out.1.trans (b.mono HBa.out.1.size)) (HBa.out.2.below b))
  have HRc := Lib.hid ((b.block _ (Array.getElem?_eq_some_iff.1 HR.out).1).trans HR.out); clear b HBa HR V1
  go_wp2_with fail
  refine (V2.out _).mono ?_
  rintro e wd ⟨rfl, b⟩
  have HBd := Lib.hid (And.intro (HBc.out.1.trans (b.mono HBc.out.1.size)) (HBc.out.2.below b))
  have HRd := Lib.hid ((b.block _ (Array.getElem?_eq_some_iff.1 HRc.out).1).trans HRc.out); clear b HBc HRc V2
  go_wp2_with fail
  refine (A0.out _).mono ?_
  rintro e we ⟨rfl, b⟩
  have HBe := Lib.hid (And.intro (HBd.out.1.trans (b.mono HBd.out.1.size)) (HBd.out.2.below b))
  have HRe := Lib.hid ((b.block _ (Array.getElem?_eq_some_iff.1 HRd.out).1).trans HRd.out); clear b HBd HRd A0
  go_wp2_with fail
  refine (A1.out _).mono ?_
  rintro e wf ⟨rfl, b⟩
  have HBf := Lib.hid (And.intro (HBe.out.1.trans (b.mono HBe.out.1.size)) (HBe.out.2.below b))
  have hrf := (b.block _ (Array.getElem?_eq_some_iff.1 HRe.out).1).trans HRe.out; clear b HBe HRe A1
  have c0 : wf.cell? ⟨s, 0, none⟩ = some (.int .i64 2) := cell_of_row _ _ 0 _ _ _ hrf
  have c1 : wf.cell? ⟨s, 1, none⟩ = some (.int .i64 13) := cell_of_row _ _ 1 _ _ _ hrf
  clear hrf
  go_wp2_with fail
  refine (X1.out _ HBf.out.2).mono ?_
  rintro e wg ⟨rfl, b⟩
  have HBg := Lib.hid (HBf.out.1.trans (b.mono HBf.out.1.size)); clear b HBf X1 c0 c1
  go_wp2
  go_ret
  exact ⟨rfl, HBg.out⟩
end Go.Proofs.YtjfbpmpdcmealaaDoor.D7
