/-
  The walk of the law BeaconFinds.
  The law BeaconFinds, for any poll.
-/
import Derived.Test.YtbfplapjjeeceaaGreatDoorBLk
import Derived.Test.YtbfplapjjeeceaaGreatDoorBSide
namespace Go.Proofs.YtbfplapjjeeceaaGreatDoor.B9
open Go.RowKit GM SH G4 E6 D7P
open W8 hiding i64 jn pX pY
/-- what the walk has made: the partials, the points that are wanted -/
structure FN (W0 : World) (av wv : Value) (A : List Pa) (Q : List Int) (W : World) : Prop where
  bl : Below W0.heap.size W0 W
  oa : W.ownsRow W0.heap.size 30 4 av A.length (fl4 A)
  ow : W.ownsRow W0.heap.size 3 1 wv Q.length (Q.map (Value.int .i64))
theorem FN.next {W0 W V : World} {av wv : Value} {A : List Pa} {Q : List Int} (h : FN W0 av wv A Q W) (k : Below W.heap.size W V) : FN W0 av wv A Q V :=
  ⟨h.bl.trans (k.mono h.bl.size), own_below' h.oa k, own_below' h.ow k⟩
theorem FN.appA {W0 W V : World} {av wv : Value} {A : List Pa} {Q : List Int} (h : FN W0 av wv A Q W) (s : Pa) {g c : Nat}
    (h1 : V.ownsRow W0.heap.size 30 4 (.slice (some ⟨g, 0, none⟩) (A.length + 1) c) (A.length + 1) (fl4 A ++ pc s)) (h2 : W.grownBy V av.ownBlock) :
    FN W0 (.slice (some ⟨g, 0, none⟩) (A.length + 1) c) wv (A ++ [s]) Q V := by
  refine ⟨h.bl.grown h2 h.bl.size (fun r hr => (h.oa.lt r hr).1), ?_, h.ow.kept h2 (rows_ne h.ow h.oa (by decide))⟩
  rw [List.length_append, fl4_app]
  show V.ownsRow _ _ _ _ (A.length + 1) (fl4 A ++ (pc s ++ []))
  rw [List.append_nil]; exact h1
theorem FN.appW {W0 W V : World} {av wv : Value} {A : List Pa} {Q : List Int} (h : FN W0 av wv A Q W) (x : Int) {g c : Nat}
    (h1 : V.ownsRow W0.heap.size 3 1 (.slice (some ⟨g, 0, none⟩) (Q.length + 1) c) (Q.length + 1) (Q.map (Value.int .i64) ++ [.int .i64 x])) (h2 : W.grownBy V wv.ownBlock) :
    FN W0 av (.slice (some ⟨g, 0, none⟩) (Q.length + 1) c) A (Q ++ [x]) V := by
  refine ⟨h.bl.grown h2 h.bl.size (fun r hr => (h.ow.lt r hr).1), h.oa.kept h2 (rows_ne h.oa h.ow (by decide)), ?_⟩
  rw [List.length_append, List.map_append]; exact h1
/-- the partials and the wanted points of the first k shares -/
def aln (q : Nat → Pa) (k : Nat) : List Pa := (List.range k).map q
def wan (bit : Nat → Bool) (k : Nat) : List Int := ((List.range k).filter bit).map fun (i : Nat) => (i : Int) + 1
theorem aln_succ (q : Nat → Pa) (k : Nat) : aln q (k+1) = aln q k ++ [q k] := by unfold aln; rw [List.range_succ, List.map_append]; rfl
theorem aln_len (q : Nat → Pa) (k : Nat) : (aln q k).length = k := by unfold aln; simp
theorem wan_yes (bit : Nat → Bool) (k : Nat) (h : bit k = true) : wan bit (k+1) = wan bit k ++ [(k : Int) + 1] := by
  unfold wan; rw [List.range_succ, List.filter_append, List.map_append]; simp [h]
theorem wan_no (bit : Nat → Bool) (k : Nat) (h : bit k = false) : wan bit (k+1) = wan bit k := by
  unfold wan; rw [List.range_succ, List.filter_append, List.map_append]; simp [h]
theorem wan_len (bit : Nat → Bool) (k : Nat) : (wan bit k).length ≤ k := by
  unfold wan
  rw [List.length_map]
  have := List.length_filter_le bit (List.range k)
  rwa [List.length_range] at this
theorem own_setne {w : World} {base : Nat} {e : TypeId} {size : Nat} {v : Value} {n : Nat} {xs : List Value} (h : w.ownsRow base e size v n xs) (d j : Nat) (u : Value) (hd : ∀ g, v.ownBlock = some g → g ≠ d) : (w.setCell ⟨d, j, none⟩ u).ownsRow base e size v n xs := by
  refine ⟨h.1, ?_⟩
  rcases h.2 with h2 | ⟨g, cap, cur, rfl, h2, h3, h4⟩
  · exact .inl h2
  · exact .inr ⟨g, cap, cur, rfl, h2, by rw [heap_setCell_other w _ g _ (hd g rfl)]; exact h3, h4⟩
theorem FN.set {W0 W : World} {av wv : Value} {A : List Pa} {Q : List Int} (h : FN W0 av wv A Q W) (d j : Nat) (u : Value) (h1 : ∀ g, av.ownBlock = some g → g ≠ d) (h2 : ∀ g, wv.ownBlock = some g → g ≠ d) (h3 : W0.heap.size ≤ d) : FN W0 av wv A Q (W.setCell ⟨d, j, none⟩ u) :=
  ⟨h.bl.setCell (p := ⟨d, j, none⟩) h3 _, own_setne h.oa d j u h1, own_setne h.ow d j u h2⟩
set_option maxRecDepth 100000 in
set_option maxHeartbeats 8000000 in
theorem finds_core (w : World) (pw0 pw1 : Option Addr) (nw0 cw0 nw1 cw1 : Nat) (r B : Int) (CF C : List Int) (L : List (List Int)) (M : Nat) (hM0 : 0 < M) (hM : M ≤ 60) (NF : Nat) (hCF : CF.length = NF) (hNF : 0 < NF ∧ NF ≤ 60) (SHL : List (Int × Int)) (hSL : SHL.length = M)
    (base pwv hd : Int) (Yf Vf Cf Zf Uf Pf Df A1 A2 Rf A3 A4 Tf Hf : Nat → Int) (bit : Nat → Bool) (few : Bool) (hbit : ∀ k, (bits .and .u32 (B / 2 ^ (k % 32)) 1 == 1) = bit k)
    (hx : ∀ k, k < M → SHL[k]? = some ((k : Int) + 1, Yf k)) (hpi : ∀ k, k < M → pi64 ((k : Int) + 1, Vf k, Cf k, Zf k) ∧ i64 (Uf k)) (hd0 : CF[0]? = some hd)
    (hD : ∀ k, k < M → 1152921504606845789 - Cf k = Df k ∧ IntKind.i64.wrap (Df k) = Df k)
    (hfew : few = decide ((M : Int) - ((wan bit M).length : Int) < (NF : Int)))
    (SA : Hid (∀ W, Below w.heap.size w W → Calls Tryz.prog 10 #[] W fun e w' => e = .returned (.bool true) ∧ Below W.heap.size W w'))
    (MA : Hid (∀ W, Below w.heap.size w W → Calls Tryz.prog 16 #[.agg #[.slice pw0 nw0 cw0, .slice pw1 nw1 cw1]] W (MQ W CF C L)))
    (SH : Hid (∀ W (p q pc : Option Addr) (ck cq cc : Nat), KY W p q C.length ck L.length cq C L → SLi W (.slice pc CF.length cc) CF → Calls Tryz.prog 20 #[.slice pc CF.length cc, .agg #[.slice p C.length ck, .slice q L.length cq]] W fun e w' => (∃ sv, e = .returned sv ∧ ShL w' sv SHL) ∧ Below W.heap.size W w'))
    (BA : Hid (∀ W, Below w.heap.size w W → Calls Tryz.prog 12 #[.int .i64 r] W fun e w' => e = .returned (.int .i64 base) ∧ Below W.heap.size W w'))
    (EV : Hid (∀ k W, k < M → Below w.heap.size w W → Calls Tryz.prog 14 #[.agg #[.int .i64 ((k : Int) + 1), .int .i64 (Yf k)], .int .i64 r] W fun e w' => e = .returned (.agg #[.int .i64 ((k : Int) + 1), .int .i64 (Vf k), .int .i64 (Cf k), .int .i64 (Zf k)]) ∧ Below W.heap.size W w'))
    (MU : Hid (∀ k W, k < M → Calls Tryz.prog 24 #[.int .i64 (Vf k), .int .i64 4, .int .i64 2305843009213691579] W fun e w' => e = .returned (.int .i64 (Uf k)) ∧ Below W.heap.size W w'))
    (AT : Hid (∀ k W (p : Option Addr) (ck : Nat), k < M → SLi W (.slice p C.length ck) C → Calls Tryz.prog 25 #[.slice p C.length ck, .int .i64 ((k : Int) + 1)] W fun e w' => e = .returned (.int .i64 (Pf k)) ∧ Below W.heap.size W w'))
    (P1 : Hid (∀ k W, k < M → Calls Tryz.prog 21 #[.int .i64 4, .int .i64 (Zf k), .int .i64 2305843009213691579] W fun e w' => e = .returned (.int .i64 (A1 k)) ∧ Below W.heap.size W w'))
    (P2 : Hid (∀ k W, k < M → Calls Tryz.prog 21 #[.int .i64 (Pf k), .int .i64 (Df k), .int .i64 2305843009213691579] W fun e w' => e = .returned (.int .i64 (A2 k)) ∧ Below W.heap.size W w'))
    (M1 : Hid (∀ k W, k < M → Calls Tryz.prog 24 #[.int .i64 (A1 k), .int .i64 (A2 k), .int .i64 2305843009213691579] W fun e w' => e = .returned (.int .i64 (Rf k)) ∧ Below W.heap.size W w'))
    (P3 : Hid (∀ k W, k < M → Calls Tryz.prog 21 #[.int .i64 base, .int .i64 (Zf k), .int .i64 2305843009213691579] W fun e w' => e = .returned (.int .i64 (A3 k)) ∧ Below W.heap.size W w'))
    (P4 : Hid (∀ k W, k < M → Calls Tryz.prog 21 #[.int .i64 (Uf k), .int .i64 (Df k), .int .i64 2305843009213691579] W fun e w' => e = .returned (.int .i64 (A4 k)) ∧ Below W.heap.size W w'))
    (M2 : Hid (∀ k W, k < M → Calls Tryz.prog 24 #[.int .i64 (A3 k), .int .i64 (A4 k), .int .i64 2305843009213691579] W fun e w' => e = .returned (.int .i64 (Tf k)) ∧ Below W.heap.size W w'))
    (CH : Hid (∀ k (W : World), k < M → Calls Tryz.prog 26 #[.slice (some ⟨W.heap.size, 0, none⟩) 6 6] (W.alloc (.cells #[.int .i64 4, .int .i64 (Pf k), .int .i64 base, .int .i64 (Uf k), .int .i64 (Rf k), .int .i64 (Tf k)] 3)) fun e w' => e = .returned (.int .i64 (Hf k)) ∧ Below W.heap.size W w'))
    (CO : Hid ((∀ i, i < M → bit i = true → (Hf i == Cf i) = false) → ∀ W (p q : Option Addr) (ck cq : Nat) v, Below w.heap.size w W → KY W p q C.length ck L.length cq C L → PaL W v (aln (fun i => if bit i then ((i : Int) + 1, Uf i, Cf i, Zf i) else ((i : Int) + 1, Vf i, Cf i, Zf i)) M) → Calls Tryz.prog 23 #[.agg #[.slice p C.length ck, .slice q L.length cq], .int .i64 r, v] W fun e w' => (∃ bv, e = .returned (.tuple #[.int .i64 (if few then 0 else pwv), bv, .int .i64 (if few then 24 else 0)]) ∧ SLi w' bv (wan bit M)) ∧ Below W.heap.size W w'))
    (IN : Hid (∀ W a b, SLi W a (wan bit M) → SLi W b (wan bit M) → Calls Tryz.prog 27 #[a, b] W fun e w' => e = .returned (.bool true) ∧ Below W.heap.size W w'))
    (PV : Hid (∀ W, Calls Tryz.prog 21 #[.int .i64 base, .int .i64 hd, .int .i64 2305843009213691579] W fun e w' => e = .returned (.int .i64 pwv) ∧ Below W.heap.size W w')) :
    Calls Tryz.prog 7 #[.agg #[.slice pw0 nw0 cw0, .slice pw1 nw1 cw1], .int .i64 r, .int .u32 B] w fun e w' => e = .returned (.bool true) ∧ Below w.heap.size w w' := by
  obtain ⟨i0, hi, hz0, hz1, hz2⟩ := info_parts infoP4
  obtain ⟨m0, hm, hy0, hy1, hy2⟩ := info_parts infoI
  obtain ⟨W, hW⟩ : ∃ W, w.alloc (.cells #[.slice pw0 nw0 cw0, .slice pw1 nw1 cw1] 36) = W := ⟨_, rfl⟩
  have K0 := (CK.start w).cells #[.slice pw0 nw0 cw0, .slice pw1 nw1 cw1] 36 _ rfl
  rw [hW] at K0
  have HK := Lib.hid (K0.sub (M := [(⟨w.heap.size, 0, none⟩, .slice pw0 nw0 cw0), (⟨w.heap.size, 1, none⟩, .slice pw1 nw1 cw1)]) (Y := []) (by simp) (by simp))
  have HX := Lib.hid (And.intro hx (And.intro hpi (And.intro hD (And.intro hSL (And.intro hd0 hfew)))))
  clear K0 hx hpi hD hSL hd0 hfew
  go_enter Tryz.func7, Tryz.ntmps7
  go_upto_region 1 with fail
  clear hW
  go_wp2_with fail
  refine (SA.out _ HK.out.b).mono ?_
  rintro e w1 ⟨rfl, b1⟩
  replace HK := Lib.hid (HK.out.next b1); clear b1
  have c0 := HK.out.get ⟨w.heap.size, 0, none⟩ (.slice pw0 nw0 cw0) (by simp)
  have c1 := HK.out.get ⟨w.heap.size, 1, none⟩ (.slice pw1 nw1 cw1) (by simp)
  go_wp2_with fail
  refine (MA.out _ HK.out.b).mono ?_
  rintro e w2 ⟨⟨pc, pk, pq, cc, ck, cq, rfl, hs, hy⟩, b2⟩
  have hLK := lk_start (HK.out.b.trans (b2.mono HK.out.b.size)) hs hy
  clear b2 hs hy HK c0 c1
  obtain ⟨NC, hNC⟩ : ∃ n, C.length = n := ⟨_, rfl⟩
  obtain ⟨NL, hNL⟩ : ∃ n, L.length = n := ⟨_, rfl⟩
  rw [hNC, hNL] at hLK SH CO ⊢
  rw [hNC] at AT
  rw [hCF] at hLK SH ⊢
  clear hNC hNL
  go_upto_region 3 with fail
  obtain ⟨W3, hW3⟩ : ∃ V, w2.alloc (.cells #[.slice pk NC ck, .slice pq NL cq] 41) = V := ⟨_, rfl⟩
  rw [hW3] at hLK ⊢
  obtain ⟨gk, hgk⟩ : ∃ g, w2.heap.size = g := ⟨_, rfl⟩
  rw [hgk] at hLK ⊢
  have HLK := Lib.hid hLK
  clear hLK hW3 hgk hCF
  have c0 := HLK.out.c0
  have c1 := HLK.out.c1
  go_wp2_with fail
  refine (SH.out _ pk pq pc ck cq cc HLK.out.y HLK.out.s).mono ?_
  rintro e w4 ⟨⟨sv, rfl, hsh⟩, b4⟩
  replace HLK := Lib.hid (HLK.out.next b4)
  clear b4 c0 c1 SH MA SA
  obtain ⟨⟨ps, cs, rfl, hcs⟩, hsr, hsn⟩ := id hsh
  rw [HX.out.2.2.2.1]
  go_wp2_with fail
  refine (BA.out _ HLK.out.b).mono ?_
  rintro e W0 ⟨rfl, b5⟩
  replace HLK := Lib.hid (HLK.out.next b5)
  have hsh0 := hsh.next b5
  obtain ⟨⟨ps', cs', e5, hcs0⟩, _, _⟩ := hsh0
  injection e5 with a1 a2 a3
  subst a1 a3
  have HSH := Lib.hid hcs0
  clear hsh hcs hsr hsn b5 hcs0 BA
  go_wp2_with fail
  go_loopw [12, 13, 14] (fun a q i wr => ∃ k : Nat, k ≤ M ∧ i = .int .i64 (k : Int) ∧ Hid (FN W0 a q (aln (fun i => if bit i then ((i : Int) + 1, Uf i, Cf i, Zf i) else ((i : Int) + 1, Vf i, Cf i, Zf i)) k) (wan bit k) wr ∧ ∀ i, i < k → bit i = true → (Hf i == Cf i) = false)) (fun _ _ i _ => M - (match i with | .int _ i => i.toNat | _ => 0))
  case atStart => exact ⟨0, Nat.zero_le _, rfl, Lib.hid ⟨⟨Below.refl _ _, World.ownsRow_nil _ _ _ _, World.ownsRow_nil _ _ _ _⟩, fun i h => absurd h (by omega)⟩⟩
  case round =>
    obtain ⟨k, hk, rfl, HQ⟩ := hrel
    by_cases hlt : k < M
    · have hx := HX.out.1 k hlt
      obtain ⟨b, o, hp, hc0, hc1⟩ := HSH.out k _ hx
      subst hp
      have c0 := (HQ.out.1.bl.cell (p := ⟨b, o + k * 2, none⟩) (World.block_lt_of_cell? _ _ hc0)).trans hc0
      have c1 := (HQ.out.1.bl.cell (p := ⟨b, o + k * 2 + 1, none⟩) (World.block_lt_of_cell? _ _ hc1)).trans hc1
      dsimp only at c0 c1
      have HLr := Lib.hid (HLK.out.next HQ.out.1.bl)
      have hki : (k : Int) < (M : Int) := by omega
      have EV1 := Lib.hid (EV.out k wr hlt HLr.out.b)
      have hr32 : Int.tmod (k : Int) 32 = ((k % 32 : Nat) : Int) := by rw [Int.tmod_eq_emod_of_nonneg (by omega)]; rfl
      have hbk := hbit k
      clear hbit
      have hpk := HX.out.2.1 k hlt
      have hDk := HX.out.2.2.1 k hlt
      have MU1 := Lib.hid fun W => MU.out k W hlt
      have AT1 := Lib.hid fun W p ck h => AT.out k W p ck hlt h
      have P11 := Lib.hid fun W => P1.out k W hlt
      have P21 := Lib.hid fun W => P2.out k W hlt
      have M11 := Lib.hid fun W => M1.out k W hlt
      have P31 := Lib.hid fun W => P3.out k W hlt
      have P41 := Lib.hid fun W => P4.out k W hlt
      have M21 := Lib.hid fun W => M2.out k W hlt
      have CH1 := Lib.hid fun W => CH.out k W hlt
      have HQK := Lib.hid (aln_succ (fun i => if bit i then ((i : Int) + 1, Uf i, Cf i, Zf i) else ((i : Int) + 1, Vf i, Cf i, Zf i)) k)
      obtain ⟨AL, hAL⟩ : ∃ A, aln (fun i => if bit i then ((i : Int) + 1, Uf i, Cf i, Zf i) else ((i : Int) + 1, Vf i, Cf i, Zf i)) k = A := ⟨_, rfl⟩
      obtain ⟨AL1, hAL1⟩ : ∃ A, aln (fun i => if bit i then ((i : Int) + 1, Uf i, Cf i, Zf i) else ((i : Int) + 1, Vf i, Cf i, Zf i)) (k+1) = A := ⟨_, rfl⟩
      have hALl : AL.length = k := by rw [← hAL]; exact aln_len _ _
      rw [hAL] at HQ HQK
      rw [hAL1] at HQK
      have HA1 := Lib.hid hAL1
      have hA := Lib.hid (show k + 1 ≤ maxLen ∧ (k + 1) * 32 ≤ 140737488355328 from ⟨by unfold maxLen; omega, by omega⟩)
      have hcb : ∀ g, u12.ownBlock = some g → g < wr.heap.size := fun g hg => (HQ.out.1.oa.lt g hg).2
      have hqb : ∀ g, u13.ownBlock = some g → g < wr.heap.size := fun g hg => (HQ.out.1.ow.lt g hg).2
      have HOB := Lib.hid (And.intro hcb hqb)
      have HH := Lib.hid HQ.out.2
      have HF0 := Lib.hid HQ.out.1
      clear hc0 hc1 hx hAL hAL1 hcb hqb HQ
      obtain ⟨x, hxk⟩ : ∃ x, (k : Int) + 1 = x := ⟨_, rfl⟩
      obtain ⟨y, hyk⟩ : ∃ y, Yf k = y := ⟨_, rfl⟩
      obtain ⟨v, hvk⟩ : ∃ v, Vf k = v := ⟨_, rfl⟩
      obtain ⟨c, hck⟩ : ∃ c, Cf k = c := ⟨_, rfl⟩
      obtain ⟨z, hzk⟩ : ∃ z, Zf k = z := ⟨_, rfl⟩
      obtain ⟨v9, hv9⟩ : ∃ v, Uf k = v := ⟨_, rfl⟩
      have HQ1 : Hid (AL1 = AL ++ [if bit k then (x, v9, c, z) else (x, v, c, z)]) := Lib.hid (by rw [HQK.out, hxk, hvk, hck, hzk, hv9])
      have HHk : Hid ((Hf k == c) = false → ∀ i, i < k + 1 → bit i = true → (Hf i == Cf i) = false) := Lib.hid (fun h i hi hb => by
        by_cases e : i = k
        · subst e; rw [hck]; exact h
        · exact HH.out i (by omega) hb)
      have HWY : Hid (bit k = true → wan bit (k+1) = wan bit k ++ [x]) := Lib.hid (fun h => by rw [wan_yes bit k h, hxk])
      have HWN : Hid (bit k = false → wan bit (k+1) = wan bit k) := Lib.hid (fun h => wan_no bit k h)
      have HHn : Hid (bit k = false → ∀ i, i < k + 1 → bit i = true → (Hf i == Cf i) = false) := Lib.hid (fun h i hi hb => by
        by_cases e : i = k
        · subst e; rw [h] at hb; cases hb
        · exact HH.out i (by omega) hb)
      have hWl := wan_len bit k
      obtain ⟨QL, hQL⟩ : ∃ q, wan bit k = q := ⟨_, rfl⟩
      rw [hQL] at HF0 HWY HWN hWl
      have hAW := Lib.hid (show QL.length + 1 ≤ maxLen ∧ (QL.length + 1) * 8 ≤ 140737488355328 from ⟨by unfold maxLen; omega, by omega⟩)
      rw [hyk] at EV1 c1
      rw [hxk] at EV1 c0 hpk AT1
      rw [hvk] at EV1 hpk MU1
      rw [hck] at EV1 hpk hDk
      rw [hzk] at EV1 hpk P11 P31
      rw [hv9] at MU1 P41 CH1 hpk
      obtain ⟨h9, hh9⟩ : ∃ h, Hf k = h := ⟨_, rfl⟩
      rw [hh9] at CH1 HHk
      generalize Df k = d at *
      generalize A1 k = u1 at *
      generalize A2 k = u2 at *
      generalize Rf k = rr at *
      generalize A3 k = u3 at *
      generalize A4 k = u4 at *
      generalize Tf k = tt at *
      generalize Pf k = pub at *
      obtain ⟨hD, hDw⟩ := hDk
      clear hyk hvk hck hzk hv9 hQL hh9 HH HQK hWl
      have HXK := Lib.hid hxk
      clear hxk
      go_wp2_with fail
      refine EV1.out.mono ?_
      rintro e w6 ⟨rfl, b6⟩
      have HF6 := Lib.hid (HF0.out.next b6)
      have hsz := Lib.hid b6.size
      clear b6 c0 c1 EV1
      go_upto_region 11 with fail
      obtain ⟨W7, hW7⟩ : ∃ V, w6.alloc (.cells #[.int .i64 x, .int .i64 v, .int .i64 c, .int .i64 z] 30) = V := ⟨_, rfl⟩
      rw [hW7]
      have b7 : Below w6.heap.size w6 W7 := by rw [← hW7]; exact (Below.refl w6.heap.size w6).alloc (Nat.le_refl _) _
      have hm7 : W7.heap[w6.heap.size]? = some (.cells #[.int .i64 x, .int .i64 v, .int .i64 c, .int .i64 z] 30 (0, 0)) := by rw [← hW7]; exact heap_alloc_new _ _
      have HF := Lib.hid (HF6.out.next b7)
      obtain ⟨gx, hgx⟩ : ∃ g, w6.heap.size = g := ⟨_, rfl⟩
      rw [hgx] at hm7 hsz ⊢
      have hgx0 : W0.heap.size ≤ gx := by rw [← hgx]; exact HF6.out.bl.size
      have HOX : Hid ((∀ g, u12.ownBlock = some g → g ≠ gx) ∧ (∀ g, u13.ownBlock = some g → g ≠ gx) ∧ W0.heap.size ≤ gx) := Lib.hid ⟨fun g hg => by have := HOB.out.1 g hg; have := hsz.out; omega, fun g hg => by have := HOB.out.2 g hg; have := hsz.out; omega, hgx0⟩
      have HM7 := Lib.hid hm7
      clear hW7 b7 hgx HF6 HF0 hgx0 hm7 HOB hsz
      cases hbb : bit k with
      | false =>
        rw [hbb] at hbk HQ1
        have HQ2 := Lib.hid (show AL1 = AL ++ [(x, v, c, z)] from HQ1.out)
        have HW2 := Lib.hid (HWN.out hbb)
        have HH2 := Lib.hid (HHn.out hbb)
        clear HQ1 HWN HWY HHn HHk hbb
        have d0 : W7.cell? ⟨gx, 0, none⟩ = some (.int .i64 x) := cell_of_row _ gx 0 _ _ _ HM7.out
        have d1 : W7.cell? ⟨gx, 1, none⟩ = some (.int .i64 v) := cell_of_row _ gx 1 _ _ _ HM7.out
        have d2 : W7.cell? ⟨gx, 2, none⟩ = some (.int .i64 c) := cell_of_row _ gx 2 _ _ _ HM7.out
        have d3 : W7.cell? ⟨gx, 3, none⟩ = some (.int .i64 z) := cell_of_row _ gx 3 _ _ _ HM7.out
        have ho := HF.out.oa.alloc (.cells #[.int .i64 x, .int .i64 v, .int .i64 c, .int .i64 z] 30)
        rw [hALl] at ho
        go_wp2_with (at_builtin; go_must (refine wpList_append_lies _ rfl _ _ 44 rfl W0.heap.size 30 i0 (.agg #[.int .i64 0, .int .i64 0, .int .i64 0, .int .i64 0]) 4 32 Tryz.underlying44 hi hz0 hz1 hz2 rfl (by decide) _ k (fl4 AL) rfl ho ⟨W7.heap.size, 0, none⟩ 1 1 [.int .i64 x, .int .i64 v, .int .i64 c, .int .i64 z] rfl rfl (World.news_of_block (heap_alloc_new _ _)) (by simp [Value.oneCell']) Nat.zero_lt_one hA.out.1 hA.out.2 (by rw [World.size_alloc]; exact Nat.le_succ_of_le HF.out.bl.size) _ rfl ?_); intro g9 c9 w9 hown9 hgrow9 hat9 hlt9)
        have K8 := (HF.out.next ((Below.refl _ W7).alloc (Nat.le_refl _) (.cells #[.int .i64 x, .int .i64 v, .int .i64 c, .int .i64 z] 30))).appA (x, v, c, z) (g := g9) (c := c9) (by rw [hALl]; exact hown9) hgrow9
        rw [hALl] at K8
        have K9 := Lib.hid (show FN W0 (.slice (some ⟨g9, 0, none⟩) (k + 1) c9) u13 (aln (fun i => if bit i then ((i : Int) + 1, Uf i, Cf i, Zf i) else ((i : Int) + 1, Vf i, Cf i, Zf i)) (k+1)) (wan bit (k+1)) w9 ∧ ∀ i, i < k + 1 → bit i = true → (Hf i == Cf i) = false from ⟨by rw [HA1.out, HQ2.out, HW2.out]; exact K8, HH2.out⟩)
        clear hown9 hgrow9 hat9 hlt9 ho d0 d1 d2 d3 HF K8
        try go_wp2
        exact ⟨⟨k + 1, by omega, by go_num, K9⟩, by simp; omega⟩
      | true =>
        rw [hbb] at hbk HQ1
        have HQ2 := Lib.hid (show AL1 = AL ++ [(x, v9, c, z)] from HQ1.out)
        have HW2 := Lib.hid (HWY.out hbb)
        clear HQ1 HWN HWY HHn hbb
        have d1 : W7.cell? ⟨gx, 1, none⟩ = some (.int .i64 v) := cell_of_row _ gx 1 _ _ _ HM7.out
        go_wp2_with fail
        refine (MU1.out _).mono ?_
        rintro e w8 ⟨rfl, b8⟩
        have hm8 := (b8.block _ (Array.getElem?_eq_some_iff.1 HM7.out).1).trans HM7.out
        replace HF := Lib.hid (HF.out.next b8)
        clear b8 d1 HM7
        have d1 : w8.cell? ⟨gx, 1, none⟩ = some (.int .i64 v) := cell_of_row _ gx 1 _ _ _ hm8
        have f1 := frozen_of_row _ _ 1 _ _ hm8
        have hm9 := heap_setCell_same w8 gx 1 _ _ (.int .i64 v9) hm8
        have HF9 := HF.out.set gx 1 (.int .i64 v9) HOX.out.1 HOX.out.2.1 HOX.out.2.2
        have HM9 := Lib.hid hm9
        replace HF := Lib.hid HF9
        clear hm8 hm9 HF9
        go_upto_region 13 with fail
        generalize w8.setCell ⟨gx, 1, none⟩ (.int .i64 v9) = W9 at *
        clear d1 f1
        have e0 : W9.cell? ⟨gx, 0, none⟩ = some (.int .i64 x) := cell_of_row _ gx 0 _ _ _ HM9.out
        have ho := HF.out.ow.alloc (.cells #[.int .i64 x] 3)
        obtain ⟨NQ, hNQ⟩ : ∃ n, QL.length = n := ⟨_, rfl⟩
        rw [hNQ] at hAW ho
        go_wp2_with (at_builtin; go_must (refine wpList_append_lies _ rfl _ _ 34 rfl W0.heap.size 3 m0 (.int .i64 0) 1 8 Tryz.underlying34 hm hy0 hy1 hy2 rfl (by decide) _ NQ (QL.map (Value.int .i64)) rfl ho ⟨W9.heap.size, 0, none⟩ 1 1 [.int .i64 x] rfl rfl (World.news_of_block (heap_alloc_new _ _)) (by simp [Value.oneCell']) Nat.zero_lt_one hAW.out.1 hAW.out.2 (by rw [World.size_alloc]; exact Nat.le_succ_of_le HF.out.bl.size) _ rfl ?_); intro g7 c7 w10 hown9 hgrow9 hat9 hlt9)
        have bA : Below W9.heap.size W9 (W9.alloc (.cells #[.int .i64 x] 3)) := (Below.refl _ W9).alloc (Nat.le_refl _) _
        have K8 := (HF.out.next bA).appW x (g := g7) (c := c7) (by rw [hNQ]; exact hown9) hgrow9
        rw [hNQ] at K8
        have hm10 := (hgrow9.block gx (by have := (Array.getElem?_eq_some_iff.1 HM9.out).1; rw [World.size_alloc]; omega) (fun e => HOX.out.2.1 gx e.symm rfl)).trans ((bA.block gx (Array.getElem?_eq_some_iff.1 HM9.out).1).trans HM9.out)
        replace HF := Lib.hid K8
        have hLr := HLK.out.next K8.bl
        have HLKs := HLK
        have HC : Hid (CK w [(⟨gx, 0, none⟩, .int .i64 x), (⟨gx, 1, none⟩, .int .i64 v9), (⟨gx, 2, none⟩, .int .i64 c), (⟨gx, 3, none⟩, .int .i64 z), (⟨gk, 0, none⟩, .slice pk NC ck), (⟨gk, 1, none⟩, .slice pq NL cq)] [] w10) := Lib.hid ⟨hLr.b, fun q' hq' => by
          simp only [List.mem_cons, List.not_mem_nil, or_false] at hq'
          rcases hq' with rfl | rfl | rfl | rfl | rfl | rfl
          · exact cell_of_row _ gx 0 _ _ _ hm10
          · exact cell_of_row _ gx 1 _ _ _ hm10
          · exact cell_of_row _ gx 2 _ _ _ hm10
          · exact cell_of_row _ gx 3 _ _ _ hm10
          · exact hLr.c0
          · exact hLr.c1, fun q' hq' => by cases hq'⟩
        have HLK := Lib.hid hLr
        clear hown9 hgrow9 hat9 hlt9 ho e0 K8 hLr bA hm10 HM9 HLr
        go_upto_region 14 with fail
        replace HLK := Lib.hid (HLK.out.next (Below.refl _ _).drew)
        replace HF := Lib.hid (HF.out.next (Below.refl _ _).drew)
        refine wp_region_held_drew (S := CK w [(⟨gx, 0, none⟩, .int .i64 x), (⟨gx, 1, none⟩, .int .i64 v9), (⟨gx, 2, none⟩, .int .i64 c), (⟨gx, 3, none⟩, .int .i64 z), (⟨gk, 0, none⟩, .slice pk NC ck), (⟨gk, 1, none⟩, .slice pq NL cq)] []) (by kernel_rfl) HC.out.drew (fun hS => ?_)
        clear HC
        generalize World.drew w10 = w10 at hS HLK HF ⊢
        refine wpAnyH_take (i := 0) (oi := { dst := some 61, op := Op.fieldAddr 41 (Operand.tmp 9) 0, type := 0, pos := "law.go:111", after := #[], guard := none }) (v := ?vfb0) rfl (by kernel_rfl) (by kernel_rfl) (by kernel_rfl) (fun _ _ _ h => h) (Or.inl ⟨by rfl, ?yfb0⟩) hS ?rfb0
        case yfb0 => (intro w hS; go_simp; try with_reducible rfl)
        refine wpAnyH_take (i := 2) (oi := { dst := some 63, op := Op.fieldAddr 30 (Operand.tmp 15) 0, type := 0, pos := "law.go:111", after := #[], guard := none }) (v := ?vfb2) rfl (by kernel_rfl) (by kernel_rfl) (by kernel_rfl) (fun _ _ _ h => h) (Or.inl ⟨by rfl, ?yfb2⟩) hS ?rfb2
        case yfb2 => (intro w hS; go_simp; try with_reducible rfl)
        refine wpAnyH_take (i := 5) (oi := { dst := some 66, op := Op.fieldAddr 30 (Operand.tmp 15) 2, type := 0, pos := "law.go:111", after := #[{ on := 8, ground := Ground.gcOnly Departure.lateStores }], guard := none }) (v := ?vfb5) rfl (by kernel_rfl) (by kernel_rfl) (by kernel_rfl) (fun _ _ _ h => h) (Or.inl ⟨by rfl, ?yfb5⟩) hS ?rfb5
        case yfb5 => (intro w hS; go_simp; try with_reducible rfl)
        go_simp
        refine wpAnyH_take (i := 1) (oi := { dst := some 62, op := Op.load 34 (Operand.tmp 61), type := 34, pos := "law.go:111", after := #[{ on := 0, ground := Ground.data }], guard := none }) (v := .slice pk NC ck) rfl (by kernel_rfl) (by kernel_rfl) (by kernel_rfl) (fun _ _ _ h => h) (Or.inl ⟨by rfl, ?yfb1⟩) hS ?rfb1
        case yfb1 => (intro w' hS; have cf := hS.get ⟨gk, 0, none⟩ (.slice pk NC ck) (by simp); go_simp; try with_reducible rfl)
        refine wpAnyH_take (i := 3) (oi := { dst := some 64, op := Op.load 3 (Operand.tmp 63), type := 3, pos := "law.go:111", after := #[{ on := 2, ground := Ground.data }], guard := none }) (v := .int .i64 x) rfl (by kernel_rfl) (by kernel_rfl) (by kernel_rfl) (fun _ _ _ h => h) (Or.inl ⟨by rfl, ?yfb3⟩) hS ?rfb3
        case yfb3 => (intro w' hS; have cf := hS.get ⟨gx, 0, none⟩ (.int .i64 x) (by simp); go_simp; try with_reducible rfl)
        refine wpAnyH_take (i := 6) (oi := { dst := some 67, op := Op.fieldAddr 28 (Operand.tmp 66) 0, type := 0, pos := "law.go:111", after := #[{ on := 5, ground := Ground.data }, { on := 8, ground := Ground.gcOnly Departure.lateStores }], guard := none }) (v := ?vfb6) rfl (by kernel_rfl) (by kernel_rfl) (by kernel_rfl) (fun _ _ _ h => h) (Or.inl ⟨by rfl, ?yfb6⟩) hS ?rfb6
        case yfb6 => (intro w hS; go_simp; try with_reducible rfl)
        go_simp
        refine wpAnyH_take (i := 7) (oi := { dst := some 68, op := Op.load 3 (Operand.tmp 67), type := 3, pos := "law.go:111", after := #[{ on := 6, ground := Ground.data }, { on := 8, ground := Ground.gcOnly Departure.lateStores }], guard := none }) (v := .int .i64 c) rfl (by kernel_rfl) (by kernel_rfl) (by kernel_rfl) (fun _ _ _ h => h) (Or.inl ⟨by rfl, ?yfb7⟩) hS ?rfb7
        case yfb7 => (intro w' hS; have cf := hS.get ⟨gx, 2, none⟩ (.int .i64 c) (by simp); go_simp; try with_reducible rfl)
        go_simp
        refine wpAnyH_ready (rs := [4]) (by kernel_rfl) (by simp) ?_
        refine AllReadyH.cons (o := { dst := some 65, op := Op.call { callee := Callee.value (Operand.func 25), args := #[Operand.tmp 62, Operand.tmp 64], argTypes := #[34, 3] }, type := 3, pos := "law.go:111", after := #[{ on := 1, ground := Ground.data }, { on := 3, ground := Ground.data }], guard := none }) rfl (fun K hK => ?_) AllReadyH.nil
        go_simp
        go_at_call 25
        refine (AT1.out _ _ _ HLK.out.y.c).mono ?_
        rintro e w' ⟨rfl, b⟩
        have hS2 := hS.next b
        replace HLK := Lib.hid (HLK.out.next b)
        replace HF := Lib.hid (HF.out.next b)
        clear b hS
        try go_simp
        refine hK.out _ _ hS2 (fun hS => ?_)
        clear hK K hS2
        refine wpAnyH_take (i := 8) (oi := { dst := some 16, op := Op.assign (Operand.tmp 65), type := 3, pos := "law.go:111", after := #[{ on := 4, ground := Ground.data }, { on := 4, ground := Ground.chain }, { on := 0, ground := Ground.phase }, { on := 1, ground := Ground.phase }, { on := 2, ground := Ground.phase }, { on := 3, ground := Ground.phase }, { on := 4, ground := Ground.phase }, { on := 5, ground := Ground.textOnly Departure.lateStores }, { on := 6, ground := Ground.textOnly Departure.lateStores }, { on := 7, ground := Ground.textOnly Departure.lateStores }], guard := none }) (v := ?vfb8) rfl (by kernel_rfl) (by kernel_rfl) (by kernel_rfl) (fun _ _ _ h => h) (Or.inl ⟨by rfl, ?yfb8⟩) hS ?rfb8
        case yfb8 => (intro w hS; go_simp; try with_reducible rfl)
        go_simp
        refine wpAnyH_take (i := 9) (oi := { dst := some 17, op := Op.assign (Operand.tmp 68), type := 3, pos := "law.go:111", after := #[{ on := 7, ground := Ground.data }, { on := 8, ground := Ground.chain }, { on := 0, ground := Ground.phase }, { on := 1, ground := Ground.phase }, { on := 2, ground := Ground.phase }, { on := 3, ground := Ground.phase }, { on := 4, ground := Ground.phase }, { on := 5, ground := Ground.phase }, { on := 6, ground := Ground.phase }, { on := 7, ground := Ground.phase }, { on := 8, ground := Ground.phase }], guard := none }) (v := ?vfb9) rfl (by kernel_rfl) (by kernel_rfl) (by kernel_rfl) (fun _ _ _ h => h) (Or.inl ⟨by rfl, ?yfb9⟩) hS ?rfb9
        case yfb9 => (intro w hS; go_simp; try with_reducible rfl)
        refine wpAnyH_done (by kernel_rfl) ?_ _
        have HC := Lib.hid hS; clear hS
        have q0 := HC.out.get ⟨gx, 0, none⟩ (.int .i64 x) (by simp)
        have q1 := HC.out.get ⟨gx, 1, none⟩ (.int .i64 v9) (by simp)
        have q2 := HC.out.get ⟨gx, 2, none⟩ (.int .i64 c) (by simp)
        have q3 := HC.out.get ⟨gx, 3, none⟩ (.int .i64 z) (by simp)
        have q4 := HC.out.get ⟨gk, 0, none⟩ (.slice pk NC ck) (by simp)
        have q5 := HC.out.get ⟨gk, 1, none⟩ (.slice pq NL cq) (by simp)
        go_wp2_with fail
        refine (P11.out _).mono ?_
        rintro e w14 ⟨rfl, b⟩
        replace HC := Lib.hid (HC.out.next b)
        replace HLK := Lib.hid (HLK.out.next b)
        replace HF := Lib.hid (HF.out.next b)
        clear b
        go_wp2_with fail
        refine (P21.out _).mono ?_
        rintro e w15 ⟨rfl, b⟩
        replace HC := Lib.hid (HC.out.next b)
        replace HLK := Lib.hid (HLK.out.next b)
        replace HF := Lib.hid (HF.out.next b)
        clear b
        go_wp2_with fail
        refine (M11.out _).mono ?_
        rintro e w16 ⟨rfl, b⟩
        replace HC := Lib.hid (HC.out.next b)
        replace HLK := Lib.hid (HLK.out.next b)
        replace HF := Lib.hid (HF.out.next b)
        clear b
        clear q0 q1 q2 q3 q4 q5
        go_upto_region 16 with fail
        replace HLK := Lib.hid (HLK.out.next (Below.refl _ _).drew)
        replace HF := Lib.hid (HF.out.next (Below.refl _ _).drew)
        refine wp_region_held_drew (S := CK w [(⟨gx, 0, none⟩, .int .i64 x), (⟨gx, 1, none⟩, .int .i64 v9), (⟨gx, 2, none⟩, .int .i64 c), (⟨gx, 3, none⟩, .int .i64 z), (⟨gk, 0, none⟩, .slice pk NC ck), (⟨gk, 1, none⟩, .slice pq NL cq)] []) (by kernel_rfl) HC.out.drew (fun hS => ?_)
        clear HC
        generalize World.drew w16 = w16 at hS HLK HF ⊢
        refine wpAnyH_take (i := 0) (oi := { dst := some 78, op := Op.move (Operand.tmp 11), type := 3, pos := "law.go:113", after := #[], guard := none }) (v := ?vfc0) rfl (by kernel_rfl) (by kernel_rfl) (by kernel_rfl) (fun _ _ _ h => h) (Or.inl ⟨by rfl, ?yfc0⟩) hS ?rfc0
        case yfc0 => (intro w hS; go_simp; try with_reducible rfl)
        refine wpAnyH_take (i := 1) (oi := { dst := some 79, op := Op.fieldAddr 30 (Operand.tmp 15) 2, type := 0, pos := "law.go:113", after := #[], guard := none }) (v := ?vfc1) rfl (by kernel_rfl) (by kernel_rfl) (by kernel_rfl) (fun _ _ _ h => h) (Or.inl ⟨by rfl, ?yfc1⟩) hS ?rfc1
        case yfc1 => (intro w hS; go_simp; try with_reducible rfl)
        refine wpAnyH_take (i := 5) (oi := { dst := some 83, op := Op.fieldAddr 30 (Operand.tmp 15) 1, type := 0, pos := "law.go:113", after := #[], guard := none }) (v := ?vfc5) rfl (by kernel_rfl) (by kernel_rfl) (by kernel_rfl) (fun _ _ _ h => h) (Or.inl ⟨by rfl, ?yfc5⟩) hS ?rfc5
        case yfc5 => (intro w hS; go_simp; try with_reducible rfl)
        refine wpAnyH_take (i := 7) (oi := { dst := some 85, op := Op.move (Operand.tmp 17), type := 3, pos := "law.go:113", after := #[], guard := none }) (v := ?vfc7) rfl (by kernel_rfl) (by kernel_rfl) (by kernel_rfl) (fun _ _ _ h => h) (Or.inl ⟨by rfl, ?yfc7⟩) hS ?rfc7
        case yfc7 => (intro w hS; go_simp; try with_reducible rfl)
        go_simp
        refine wpAnyH_take (i := 2) (oi := { dst := some 80, op := Op.fieldAddr 28 (Operand.tmp 79) 1, type := 0, pos := "law.go:113", after := #[{ on := 1, ground := Ground.data }], guard := none }) (v := ?vfc2) rfl (by kernel_rfl) (by kernel_rfl) (by kernel_rfl) (fun _ _ _ h => h) (Or.inl ⟨by rfl, ?yfc2⟩) hS ?rfc2
        case yfc2 => (intro w hS; go_simp; try with_reducible rfl)
        refine wpAnyH_take (i := 6) (oi := { dst := some 84, op := Op.load 3 (Operand.tmp 83), type := 3, pos := "law.go:113", after := #[{ on := 5, ground := Ground.data }], guard := none }) (v := .int .i64 v9) rfl (by kernel_rfl) (by kernel_rfl) (by kernel_rfl) (fun _ _ _ h => h) (Or.inl ⟨by rfl, ?yfc6⟩) hS ?rfc6
        case yfc6 => (intro w' hS; have cf := hS.get ⟨gx, 1, none⟩ (.int .i64 v9) (by simp); go_simp; try with_reducible rfl)
        refine wpAnyH_take (i := 8) (oi := { dst := some 86, op := Op.binOp BinOp.sub 3 (Operand.const (Value.int IntKind.i64 1152921504606845789)) (Operand.tmp 85) 3, type := 3, pos := "law.go:113", after := #[{ on := 7, ground := Ground.data }], guard := none }) (v := ?vfc8) rfl (by kernel_rfl) (by kernel_rfl) (by kernel_rfl) (fun _ _ _ h => h) (Or.inl ⟨by rfl, ?yfc8⟩) hS ?rfc8
        case yfc8 => (intro w hS; go_simp; try with_reducible rfl)
        go_simp
        refine wpAnyH_take (i := 3) (oi := { dst := some 81, op := Op.load 3 (Operand.tmp 80), type := 3, pos := "law.go:113", after := #[{ on := 2, ground := Ground.data }], guard := none }) (v := .int .i64 z) rfl (by kernel_rfl) (by kernel_rfl) (by kernel_rfl) (fun _ _ _ h => h) (Or.inl ⟨by rfl, ?yfc3⟩) hS ?rfc3
        case yfc3 => (intro w' hS; have cf := hS.get ⟨gx, 3, none⟩ (.int .i64 z) (by simp); go_simp; try with_reducible rfl)
        go_simp
        refine wpAnyH_ready (rs := [4]) (by kernel_rfl) (by simp) ?_
        refine AllReadyH.cons (o := { dst := some 82, op := Op.call { callee := Callee.value (Operand.func 21), args := #[Operand.tmp 78, Operand.tmp 81, Operand.const (Value.int IntKind.i64 2305843009213691579)], argTypes := #[3, 3, 3] }, type := 3, pos := "law.go:113", after := #[{ on := 0, ground := Ground.data }, { on := 3, ground := Ground.data }], guard := none }) rfl (fun K hK => ?_) AllReadyH.nil
        go_simp
        go_at_call 21
        refine (P31.out _).mono ?_
        rintro e w' ⟨rfl, b⟩
        have hS2 := hS.next b
        replace HLK := Lib.hid (HLK.out.next b)
        replace HF := Lib.hid (HF.out.next b)
        clear b hS
        try go_simp
        refine hK.out _ _ hS2 (fun hS => ?_)
        clear hK K hS2
        refine wpAnyH_ready (rs := [9]) (by kernel_rfl) (by simp) ?_
        refine AllReadyH.cons (o := { dst := some 87, op := Op.call { callee := Callee.value (Operand.func 21), args := #[Operand.tmp 84, Operand.tmp 86, Operand.const (Value.int IntKind.i64 2305843009213691579)], argTypes := #[3, 3, 3] }, type := 3, pos := "law.go:113", after := #[{ on := 6, ground := Ground.data }, { on := 8, ground := Ground.data }, { on := 4, ground := Ground.chain }], guard := none }) rfl (fun K hK => ?_) AllReadyH.nil
        go_simp
        go_at_call 21
        refine (P41.out _).mono ?_
        rintro e w' ⟨rfl, b⟩
        have hS2 := hS.next b
        replace HLK := Lib.hid (HLK.out.next b)
        replace HF := Lib.hid (HF.out.next b)
        clear b hS
        try go_simp
        refine hK.out _ _ hS2 (fun hS => ?_)
        clear hK K hS2
        refine wpAnyH_ready (rs := [10]) (by kernel_rfl) (by simp) ?_
        refine AllReadyH.cons (o := { dst := some 88, op := Op.call { callee := Callee.value (Operand.func 24), args := #[Operand.tmp 82, Operand.tmp 87, Operand.const (Value.int IntKind.i64 2305843009213691579)], argTypes := #[3, 3, 3] }, type := 3, pos := "law.go:113", after := #[{ on := 4, ground := Ground.data }, { on := 9, ground := Ground.data }, { on := 9, ground := Ground.chain }], guard := none }) rfl (fun K hK => ?_) AllReadyH.nil
        go_simp
        go_at_call 24
        refine (M21.out _).mono ?_
        rintro e w' ⟨rfl, b⟩
        have hS2 := hS.next b
        replace HLK := Lib.hid (HLK.out.next b)
        replace HF := Lib.hid (HF.out.next b)
        clear b hS
        try go_simp
        refine hK.out _ _ hS2 (fun hS => ?_)
        clear hK K hS2
        refine wpAnyH_take (i := 11) (oi := { dst := some 19, op := Op.assign (Operand.tmp 88), type := 3, pos := "law.go:113", after := #[{ on := 10, ground := Ground.data }, { on := 10, ground := Ground.chain }, { on := 0, ground := Ground.phase }, { on := 1, ground := Ground.phase }, { on := 2, ground := Ground.phase }, { on := 3, ground := Ground.phase }, { on := 4, ground := Ground.phase }, { on := 5, ground := Ground.phase }, { on := 6, ground := Ground.phase }, { on := 7, ground := Ground.phase }, { on := 8, ground := Ground.phase }, { on := 9, ground := Ground.phase }, { on := 10, ground := Ground.phase }], guard := none }) (v := ?vfc11) rfl (by kernel_rfl) (by kernel_rfl) (by kernel_rfl) (fun _ _ _ h => h) (Or.inl ⟨by rfl, ?yfc11⟩) hS ?rfc11
        case yfc11 => (intro w hS; go_simp; try with_reducible rfl)
        refine wpAnyH_done (by kernel_rfl) ?_ _
        have HC := Lib.hid hS; clear hS
        have q0 := HC.out.get ⟨gx, 0, none⟩ (.int .i64 x) (by simp)
        have q1 := HC.out.get ⟨gx, 1, none⟩ (.int .i64 v9) (by simp)
        have q2 := HC.out.get ⟨gx, 2, none⟩ (.int .i64 c) (by simp)
        have q3 := HC.out.get ⟨gx, 3, none⟩ (.int .i64 z) (by simp)
        have q4 := HC.out.get ⟨gk, 0, none⟩ (.slice pk NC ck) (by simp)
        have q5 := HC.out.get ⟨gk, 1, none⟩ (.slice pq NL cq) (by simp)
        go_wp2_with fail
        refine (CH1.out _).mono ?_
        rintro e w17 ⟨rfl, b⟩
        replace HC := Lib.hid (HC.out.next b)
        replace HLK := Lib.hid (HLK.out.next b)
        replace HF := Lib.hid (HF.out.next b)
        clear b
        clear q0 q1 q2 q3 q4 q5
        by_cases hcc : h9 = c
        · have hcb : (h9 == c) = true := by rw [hcc]; simp
          go_wp2
          go_ret
          exact ⟨rfl, HC.out.b⟩
        · have hcb : (h9 == c) = false := by rw [beq_eq_false_iff_ne]; exact hcc
          have HH2 := Lib.hid (HHk.out hcb)
          clear HHk
          have q0 := HC.out.get ⟨gx, 0, none⟩ (.int .i64 x) (by simp)
          have q1 := HC.out.get ⟨gx, 1, none⟩ (.int .i64 v9) (by simp)
          have q2 := HC.out.get ⟨gx, 2, none⟩ (.int .i64 c) (by simp)
          have q3 := HC.out.get ⟨gx, 3, none⟩ (.int .i64 z) (by simp)
          have q4 := HC.out.get ⟨gk, 0, none⟩ (.slice pk NC ck) (by simp)
          have q5 := HC.out.get ⟨gk, 1, none⟩ (.slice pq NL cq) (by simp)
          have ho := HF.out.oa.alloc (.cells #[.int .i64 x, .int .i64 v9, .int .i64 c, .int .i64 z] 30)
          rw [hALl] at ho
          go_wp2_with (at_builtin; go_must (refine wpList_append_lies _ rfl _ _ 44 rfl W0.heap.size 30 i0 (.agg #[.int .i64 0, .int .i64 0, .int .i64 0, .int .i64 0]) 4 32 Tryz.underlying44 hi hz0 hz1 hz2 rfl (by decide) _ k (fl4 AL) rfl ho ⟨w17.heap.size, 0, none⟩ 1 1 [.int .i64 x, .int .i64 v9, .int .i64 c, .int .i64 z] rfl rfl (World.news_of_block (heap_alloc_new _ _)) (by simp [Value.oneCell']) Nat.zero_lt_one hA.out.1 hA.out.2 (by rw [World.size_alloc]; exact Nat.le_succ_of_le HF.out.bl.size) _ rfl ?_); intro g9 c9 w19 hown9 hgrow9 hat9 hlt9)
          have K8 := (HF.out.next ((Below.refl _ w17).alloc (Nat.le_refl _) (.cells #[.int .i64 x, .int .i64 v9, .int .i64 c, .int .i64 z] 30))).appA (x, v9, c, z) (g := g9) (c := c9) (by rw [hALl]; exact hown9) hgrow9
          rw [hALl] at K8
          have K9 := Lib.hid (show FN W0 (.slice (some ⟨g9, 0, none⟩) (k + 1) c9) (.slice (some ⟨g7, 0, none⟩) (NQ + 1) c7) (aln (fun i => if bit i then ((i : Int) + 1, Uf i, Cf i, Zf i) else ((i : Int) + 1, Vf i, Cf i, Zf i)) (k+1)) (wan bit (k+1)) w19 ∧ ∀ i, i < k + 1 → bit i = true → (Hf i == Cf i) = false from ⟨by rw [HA1.out, HQ2.out, HW2.out]; exact K8, HH2.out⟩)
          clear hown9 hgrow9 hat9 hlt9 ho HF K8 HC HLK q0 q1 q2 q3 q4 q5
          try go_wp2
          exact ⟨⟨k + 1, by omega, by go_num, K9⟩, by simp; omega⟩
    · obtain rfl : k = M := by omega
      have hALl := aln_len (fun i => if bit i then ((i : Int) + 1, Uf i, Cf i, Zf i) else ((i : Int) + 1, Vf i, Cf i, Zf i)) k
      have HPA := Lib.hid (own_PaL (l := aln (fun i => if bit i then ((i : Int) + 1, Uf i, Cf i, Zf i) else ((i : Int) + 1, Vf i, Cf i, Zf i)) k) HQ.out.1.oa (fun s hs => by
        obtain ⟨i, hi, rfl⟩ := List.mem_map.1 hs
        have := HX.out.2.1 i (List.mem_range.1 hi)
        try dsimp only
        split
        · exact ⟨this.1.1, this.2, this.1.2.2.1, this.1.2.2.2⟩
        · exact this.1) (by rw [hALl]; omega))
      have HLr := Lib.hid (HLK.out.next HQ.out.1.bl)
      have HCO := Lib.hid (CO.out HQ.out.2)
      have HSW := Lib.hid (own_SLi HQ.out.1.ow (fun y hy => by
        obtain ⟨i, hi, rfl⟩ := List.mem_map.1 hy
        have := List.mem_range.1 (List.mem_filter.1 hi).1
        exact ⟨by omega, by omega⟩) (by have := wan_len bit k; omega))
      have c0 := HLr.out.c0
      have c1 := HLr.out.c1
      have hfw := HX.out.2.2.2.2.2
      have hWl := wan_len bit k
      obtain ⟨pq9, cq9, hq9⟩ := own_shape HQ.out.1.ow
      subst hq9
      obtain ⟨NQ, hNQ⟩ : ∃ n, (wan bit k).length = n := ⟨_, rfl⟩
      rw [hNQ] at hfw hWl HSW ⊢
      obtain ⟨bc, oc, hpc, hcd⟩ : ∃ b o, pc = some ⟨b, o, none⟩ ∧ wr.cell? ⟨b, o, none⟩ = some (.int .i64 hd) := by
        obtain ⟨p9, c9, e9, h9⟩ := HLr.out.s.h
        injection e9 with a1 a2 a3
        obtain ⟨b, o, e, hx⟩ := h9 0 hd HX.out.2.2.2.2.1
        exact ⟨b, o, by rw [a1, e], by simpa using hx⟩
      subst hpc
      have HCD := Lib.hid hcd
      clear HQ hcd hALl HLK
      have hsub : IntKind.i64.wrap ((k : Int) - (NQ : Int)) = (k : Int) - (NQ : Int) := by rw [IntKind.wrap_i64]; omega
      by_cases hlt9 : (k : Int) - (NQ : Int) < (NF : Int)
      · obtain rfl : few = true := by rw [hfw]; exact decide_eq_true hlt9
        have HLS := Lib.hid (And.intro hsub hlt9)
        clear hsub hlt9 hfw hWl
        have HCO := Lib.hid fun W p q ck cq v a b c => by have := HCO.out W p q ck cq v a b c; simpa only [if_true] using this
        go_wp2_with fail
        refine (HCO.out _ pk pq ck cq _ HLr.out.b HLr.out.y HPA.out).mono ?_
        rintro e w7 ⟨⟨bv, rfl, hbv⟩, b7⟩
        have HSW7 := Lib.hid (HSW.out.next b7)
        have HB7 := Lib.hid (HLr.out.b.trans (b7.mono HLr.out.b.size))
        have HCD7 := Lib.hid ((b7.cell (p := ⟨bc, oc, none⟩) (World.block_lt_of_cell? _ _ HCD.out)).trans HCD.out)
        have HBV := Lib.hid hbv
        clear b7 HLr HPA c0 c1 hbv HSW HCD
        go_wp2_with fail
        refine (IN.out _ _ _ HBV.out HSW7.out).mono ?_
        rintro e w8 ⟨rfl, b8⟩
        have HB8 := Lib.hid (HB7.out.trans (b8.mono HB7.out.size))
        have HCD8 := Lib.hid ((b8.cell (p := ⟨bc, oc, none⟩) (World.block_lt_of_cell? _ _ HCD7.out)).trans HCD7.out)
        clear b8 HB7 HSW7 HCD7 HBV
        obtain ⟨hsub, hlt9⟩ := HLS.out
        clear HLS
        go_wp2
        try go_ret
        exact ⟨rfl, HB8.out⟩
      · obtain rfl : few = false := by rw [hfw]; exact decide_eq_false hlt9
        have HLS := Lib.hid (And.intro hsub hlt9)
        clear hsub hlt9 hfw hWl
        have HCO := Lib.hid fun W p q ck cq v a b c => by have := HCO.out W p q ck cq v a b c; simpa only [if_neg (show ¬ (false = true) by decide)] using this
        go_wp2_with fail
        refine (HCO.out _ pk pq ck cq _ HLr.out.b HLr.out.y HPA.out).mono ?_
        rintro e w7 ⟨⟨bv, rfl, hbv⟩, b7⟩
        have HSW7 := Lib.hid (HSW.out.next b7)
        have HB7 := Lib.hid (HLr.out.b.trans (b7.mono HLr.out.b.size))
        have HCD7 := Lib.hid ((b7.cell (p := ⟨bc, oc, none⟩) (World.block_lt_of_cell? _ _ HCD.out)).trans HCD.out)
        have HBV := Lib.hid hbv
        clear b7 HLr HPA c0 c1 hbv HSW HCD
        go_wp2_with fail
        refine (IN.out _ _ _ HBV.out HSW7.out).mono ?_
        rintro e w8 ⟨rfl, b8⟩
        have HB8 := Lib.hid (HB7.out.trans (b8.mono HB7.out.size))
        have HCD8 := Lib.hid ((b8.cell (p := ⟨bc, oc, none⟩) (World.block_lt_of_cell? _ _ HCD7.out)).trans HCD7.out)
        clear b8 HB7 HSW7 HCD7 HBV
        obtain ⟨hsub, hlt9⟩ := HLS.out
        clear HLS
        have cd := HCD8.out
        have hNF0 : (0 : Int) < (NF : Int) := by omega
        go_wp2_with fail
        refine (PV.out _).mono ?_
        rintro e w9 ⟨rfl, b9⟩
        have HB9 := Lib.hid (HB8.out.trans (b9.mono HB8.out.size))
        clear b9 cd HB8 HCD8
        go_wp2
        try go_ret
        exact ⟨rfl, HB9.out⟩
end Go.Proofs.YtbfplapjjeeceaaGreatDoor.B9
namespace Go.Proofs.YtbfplapjjeeceaaGreatDoor.B9
open Go.RowKit GM SH G4 E6 D7P
open W8 hiding i64 jn pX pY
theorem filter_map' {α : Type} (f : Pa → Bool) (q : α → Pa) (g : α → Bool) : ∀ l : List α, (∀ i ∈ l, f (q i) = g i) → (l.map q).filter f = (l.filter g).map q
  | [], _ => rfl
  | x :: l, h => by
    have ih := filter_map' f q g l (fun i hi => h i (by simp [hi]))
    have hx := h x (by simp)
    rw [List.map_cons, List.filter_cons, List.filter_cons, hx, ih]
    cases g x <;> rfl
theorem map_same {α β : Type} (f g : α → β) : ∀ l : List α, (∀ i ∈ l, f i = g i) → l.map f = l.map g
  | [], _ => rfl
  | x :: l, h => by rw [List.map_cons, List.map_cons, h x (by simp), map_same f g l (fun i hi => h i (by simp [hi]))]
theorem nodup_map' {f : Nat → Int} (hf : ∀ a b, f a = f b → a = b) : ∀ l : List Nat, l.Nodup → (l.map f).Nodup
  | [], _ => List.nodup_nil
  | x :: l, h => by
    rw [List.map_cons, List.nodup_cons]
    rw [List.nodup_cons] at h
    refine ⟨fun hm => ?_, nodup_map' hf l h.2⟩
    obtain ⟨y, hy, e⟩ := List.mem_map.1 hm
    exact h.1 (by rw [← hf _ _ e]; exact hy)
theorem head_get : ∀ l : List Int, 0 < l.length → l[0]? = some (l.headD 0)
  | [], h => absurd h (by decide)
  | _ :: _, _ => rfl
/-- the points whose value is right -/
def gd (bit : Nat → Bool) (M : Nat) : List Int := ((List.range M).filter fun i => !bit i).map fun (i : Nat) => (i : Int) + 1
theorem gd_len (bit : Nat → Bool) (M : Nat) : (gd bit M).length + (wan bit M).length = M := by
  have := filt_split bit (List.range M)
  rw [List.length_range] at this
  unfold gd wan
  rw [List.length_map, List.length_map]
  exact this
theorem gd_mem (bit : Nat → Bool) (M : Nat) : ∀ x ∈ gd bit M, 1 ≤ x ∧ x ≤ (M : Int) := fun x hx => by
  obtain ⟨i, hi, rfl⟩ := List.mem_map.1 hx
  have := List.mem_range.1 (List.mem_filter.1 hi).1
  omega
theorem gd_nodup (bit : Nat → Bool) (M : Nat) : (gd bit M).Nodup := nodup_map' (fun a b h => by omega) _ (List.nodup_range.sublist List.filter_sublist)
/-- what Combine finds among right partials and wrong ones -/
theorem finds_parts (lw lc : List Int) (r : Int) (bit : Nat → Bool) (q : Nat → Pa) (M : Nat) (hM : M = many (LP lw))
    (hr : ∀ i, i < M → bit i = false → q i = pt (cfs lw lc) r ((i : Int) + 1))
    (h1 : ∀ i, i < M → bit i = true → (q i).1 = (i : Int) + 1 ∧ acc (cms lw lc) (many (LP lw) : Nat) r (q i) = false) :
    cR (cms lw lc) (many (LP lw) : Nat) r (aln q M) = wan bit M ∧ cG (cms lw lc) (many (LP lw) : Nat) r (aln q M) = (gd bit M).map (pt (cfs lw lc) r) := by
  have ha : ∀ i ∈ List.range M, acc (cms lw lc) (many (LP lw) : Nat) r (q i) = !bit i := fun i hi => by
    have hlt := List.mem_range.1 hi
    cases hb : bit i with
    | true => exact (h1 i hlt hb).2
    | false => rw [hr i hlt hb]; exact acc_pt lw lc r _ ⟨by omega, by omega⟩
  constructor
  · unfold cR aln wan
    rw [filter_map' _ q bit _ (fun i hi => by rw [ha i hi, Bool.not_not]), List.map_map]
    refine map_same _ _ _ (fun i hi => ?_)
    obtain ⟨h2, h3⟩ := List.mem_filter.1 hi
    exact (h1 i (List.mem_range.1 h2) h3).1
  · unfold cG aln
    rw [filter_map' _ q (fun i => !bit i) _ ha]
    have e : ((List.range M).filter fun i => !bit i).map q = (gd bit M).map (pt (cfs lw lc) r) := by
      unfold gd
      rw [List.map_map]
      refine map_same _ _ _ (fun i hi => ?_)
      obtain ⟨h2, h3⟩ := List.mem_filter.1 hi
      exact hr i (List.mem_range.1 h2) (by simpa using h3)
    rw [e]
    refine und_self _ ?_
    rw [List.map_map, show (Prod.fst ∘ pt (cfs lw lc) r) = id from rfl, List.map_id]
    exact gd_nodup bit M
set_option maxRecDepth 100000 in
theorem finds_walk (w : World) (wv cv : Value) (lw lc : List Int) (r B : Int) (hw : BL w wv lw) (hc : D7.AL w cv lc) (hr : i64 r) (hB : 0 ≤ B ∧ B ≤ 4294967295) (hT : TS w) :
    Calls Tryz.prog 7 #[.agg #[wv, cv], .int .i64 r, .int .u32 B] w fun e w' => e = .returned (.bool true) ∧ Below w.heap.size w w' := by
  have MA := fun W (k : Below w.heap.size w W) => Make_q w W wv cv lw lc hw hc k
  obtain ⟨pw, cw, rfl, _⟩ := id hw
  obtain ⟨pc, nc, rfl, _⟩ := al_form hc
  have hM := M_rg lw
  have hN := nd_rng lw
  have hNC := cfs_len lw lc
  obtain ⟨M, hMe⟩ : ∃ m, many (LP lw) = m := ⟨_, rfl⟩
  have hMi : ∀ k : Nat, k < M → i64 ((k : Int) + 1) := fun k h => ⟨by omega, by omega⟩
  obtain ⟨Yf, hY⟩ : ∃ f : Nat → Int, ∀ k : Nat, D7.vl (cfs lw lc) ((k : Int) + 1) = f k := ⟨_, fun _ => rfl⟩
  have hYr : ∀ k, 0 ≤ Yf k := fun k => by rw [← hY]; exact (D7.vl_rng _ _).1
  have hYi : ∀ k, i64 (Yf k) := fun k => by rw [← hY]; exact vl_ok _ _
  obtain ⟨Vf, hV⟩ : ∃ f : Nat → Int, ∀ k : Nat, pp (bs r) (Yf k) = f k := ⟨_, fun _ => rfl⟩
  have hVm : ∀ k, mem (Vf k) = true := fun k => by rw [← hV]; exact pp_mem (bs_mem r) _ (hYr k)
  have hVi : ∀ k, i64 (Vf k) := fun k => by rw [← hV]; exact pp_i64 _ _
  obtain ⟨Cf, hC⟩ : ∃ f : Nat → Int, ∀ k : Nat, prC (Yf k) 4 (bs r) = f k := ⟨_, fun _ => rfl⟩
  have hCr : ∀ k, 0 ≤ Cf k ∧ Cf k < 1152921504606845789 := fun k => by rw [← hC]; exact prC_rng _ _ _
  have hCi : ∀ k, i64 (Cf k) := fun k => ⟨by have := hCr k; omega, by have := hCr k; omega⟩
  obtain ⟨Zf, hZ⟩ : ∃ f : Nat → Int, ∀ k : Nat, prZ (Yf k) 4 (bs r) = f k := ⟨_, fun _ => rfl⟩
  have hZr : ∀ k, 0 ≤ Zf k ∧ Zf k < 1152921504606845789 := fun k => by rw [← hZ]; exact prZ_rng _ _ _
  have hZi : ∀ k, i64 (Zf k) := fun k => ⟨by have := hZr k; omega, by have := hZr k; omega⟩
  have hpt : ∀ k : Nat, pt (cfs lw lc) r ((k : Int) + 1) = ((k : Int) + 1, Vf k, Cf k, Zf k) := fun k => by unfold pt; rw [hY, hV, hC, hZ]
  obtain ⟨Uf, hU⟩ : ∃ f : Nat → Int, ∀ k : Nat, gm (Vf k) 4 2305843009213691579 = f k := ⟨_, fun _ => rfl⟩
  have hUm : ∀ k, mem (Uf k) = true := fun k => by rw [← hU]; exact mem_mul (hVm k) mem_4
  have hUi : ∀ k, i64 (Uf k) := fun k => by rw [← hU]; exact D7.gmP_i64 _ _
  obtain ⟨Pf, hP⟩ : ∃ f : Nat → Int, ∀ k : Nat, pp 4 (Yf k) = f k := ⟨_, fun _ => rfl⟩
  have hPm : ∀ k, mem (Pf k) = true := fun k => by rw [← hP]; exact pp_mem mem_4 _ (hYr k)
  have hPi : ∀ k, i64 (Pf k) := fun k => by rw [← hP]; exact pp_i64 _ _
  have hav : ∀ k : Nat, D7.av (cms lw lc) ((k : Int) + 1) = Pf k := fun k => by rw [av_poll lw lc _ (by omega), hY, hP]
  obtain ⟨Df, hD⟩ : ∃ f : Nat → Int, ∀ k : Nat, 1152921504606845789 - Cf k = f k := ⟨_, fun _ => rfl⟩
  have hDi : ∀ k, i64 (Df k) := fun k => sub_i64 _ _ (hCr k) (hD k)
  have hDw : ∀ k, IntKind.i64.wrap (Df k) = Df k := fun k => by rw [← hD]; exact wrap_sub _ (hCr k)
  obtain ⟨A1, h1⟩ : ∃ f : Nat → Int, ∀ k : Nat, pp 4 (Zf k) = f k := ⟨_, fun _ => rfl⟩
  obtain ⟨A2, h2⟩ : ∃ f : Nat → Int, ∀ k : Nat, pp (Pf k) (Df k) = f k := ⟨_, fun _ => rfl⟩
  obtain ⟨A3, h3⟩ : ∃ f : Nat → Int, ∀ k : Nat, pp (bs r) (Zf k) = f k := ⟨_, fun _ => rfl⟩
  obtain ⟨A4, h4⟩ : ∃ f : Nat → Int, ∀ k : Nat, pp (Uf k) (Df k) = f k := ⟨_, fun _ => rfl⟩
  have i1 : ∀ k, i64 (A1 k) := fun k => by rw [← h1]; exact pp_i64 _ _
  have i2 : ∀ k, i64 (A2 k) := fun k => by rw [← h2]; exact pp_i64 _ _
  have i3 : ∀ k, i64 (A3 k) := fun k => by rw [← h3]; exact pp_i64 _ _
  have i4 : ∀ k, i64 (A4 k) := fun k => by rw [← h4]; exact pp_i64 _ _
  obtain ⟨Rf, hR⟩ : ∃ f : Nat → Int, ∀ k : Nat, sd 4 (Pf k) (Cf k) (Zf k) = f k := ⟨_, fun _ => rfl⟩
  obtain ⟨Tf, hTf⟩ : ∃ f : Nat → Int, ∀ k : Nat, sd (bs r) (Uf k) (Cf k) (Zf k) = f k := ⟨_, fun _ => rfl⟩
  have s1 : ∀ k, gm (A1 k) (A2 k) 2305843009213691579 = Rf k := fun k => by rw [← hR]; exact sd_is _ _ _ _ _ _ _ (hD k) (h1 k) (h2 k)
  have s2 : ∀ k, gm (A3 k) (A4 k) 2305843009213691579 = Tf k := fun k => by rw [← hTf]; exact sd_is _ _ _ _ _ _ _ (hD k) (h3 k) (h4 k)
  have iR : ∀ k, i64 (Rf k) := fun k => by rw [← hR]; exact sd_i64 _ _ _ _
  have iT : ∀ k, i64 (Tf k) := fun k => by rw [← hTf]; exact sd_i64 _ _ _ _
  obtain ⟨Hf, hH⟩ : ∃ f : Nat → Int, ∀ k : Nat, ch [4, Pf k, bs r, Uf k, Rf k, Tf k] = f k := ⟨_, fun _ => rfl⟩
  have hacc : ∀ k : Nat, k < M → acc (cms lw lc) (many (LP lw) : Nat) r ((k : Int) + 1, Uf k, Cf k, Zf k) = (Hf k == Cf k) := fun k hk => by
    unfold acc
    dsimp only
    rw [decide_eq_true (show 1 ≤ (k : Int) + 1 by omega), decide_eq_true (show (k : Int) + 1 ≤ ((many (LP lw) : Nat) : Int) by rw [hMe]; omega), hav, vf_is (hCr k) (hZr k) mem_4 (hPm k) (bs_mem r) (hUm k), hR, hTf, hH]
    rfl
  have hhd := head_get (cfs lw lc) (by rw [hNC]; omega)
  have hh0 := cfs_head lw lc
  obtain ⟨hd, hhe⟩ : ∃ h, (cfs lw lc).headD 0 = h := ⟨_, rfl⟩
  rw [hhe] at hhd hh0
  obtain ⟨bit, hbit⟩ : ∃ f : Nat → Bool, ∀ k : Nat, (bits .and .u32 (B / 2 ^ (k % 32)) 1 == 1) = f k := ⟨_, fun _ => rfl⟩
  have hgl := gd_len bit M
  refine finds_core w pw pc lw.length cw lc.length nc r B (cfs lw lc) (cms lw lc) (LP lw) M (by omega) (by omega) (nd lw) hNC (by omega) (shs (cfs lw lc) M) (shs_len _ _) (bs r) (pp (bs r) hd) hd
    Yf Vf Cf Zf Uf Pf Df A1 A2 Rf A3 A4 Tf Hf bit (decide ((M : Int) - ((wan bit M).length : Int) < (nd lw : Int))) hbit
    (fun k hk => by rw [shs_get _ _ _ hk, hY]) (fun k hk => ⟨⟨hMi k hk, hVi k, hCi k, hZi k⟩, hUi k⟩) hhd (fun k _ => ⟨hD k, hDw k⟩) rfl
    (Lib.hid fun W k => sanity_any W (hT.below k)) (Lib.hid MA)
    (Lib.hid fun W p q pc ck cq cc hy hs => by have := Shares_any W p q _ ck _ cq _ _ hy (by rw [hMe]; omega) _ _ hs; rw [hMe] at this; exact this)
    (Lib.hid fun W k => Base_any W r _ rfl hr (hT.below k))
    (Lib.hid fun k W hk b => Eval_any W ((k : Int) + 1) (Yf k) r ((k : Int) + 1, Vf k, Cf k, Zf k) (by rw [← hY, evl_pt _ _ _ ⟨by omega, by omega⟩, hpt]) (hMi k hk) (hYi k) hr (hT.below b))
    (Lib.hid fun k W _ => mul9 W _ _ _ (hU k) (hVi k) ⟨by decide, by decide⟩)
    (Lib.hid fun k W p ck hk hs => by have := D7.refAt_any W _ (cms lw lc) ((k : Int) + 1) (slD hs) hs.r (hMi k hk) hs.n; rw [hav] at this; exact this)
    (Lib.hid fun k W _ => pow9 W 4 _ _ (h1 k) ⟨by decide, by decide⟩ (hZi k)) (Lib.hid fun k W _ => pow9 W _ _ _ (h2 k) (hPi k) (hDi k)) (Lib.hid fun k W _ => mul9 W _ _ _ (s1 k) (i1 k) (i2 k))
    (Lib.hid fun k W _ => pow9 W _ _ _ (h3 k) (bs_i64 r) (hZi k)) (Lib.hid fun k W _ => pow9 W _ _ _ (h4 k) (hUi k) (hDi k)) (Lib.hid fun k W _ => mul9 W _ _ _ (s2 k) (i3 k) (i4 k))
    (Lib.hid fun k W _ => chal_six W 4 _ _ _ _ _ _ (hH k) ⟨by decide, by decide⟩ (hPi k) (bs_i64 r) (hUi k) (iR k) (iT k))
    (Lib.hid ?_) (Lib.hid fun W a b ha hb => (Ints9 W a b _ _ ha hb).mono fun e w' h => ⟨by rw [h.1, decide_eq_true rfl], h.2⟩)
    (Lib.hid fun W => pow9 W _ _ _ rfl (bs_i64 r) ⟨by omega, by omega⟩)
  intro hbad W p q ck cq v b hy hv
  obtain ⟨fR, fG⟩ := finds_parts lw lc r bit (fun i => if bit i then ((i : Int) + 1, Uf i, Cf i, Zf i) else ((i : Int) + 1, Vf i, Cf i, Zf i)) M hMe.symm
    (fun i _ h => by
      show (if bit i then ((i : Int) + 1, Uf i, Cf i, Zf i) else ((i : Int) + 1, Vf i, Cf i, Zf i)) = _
      rw [h, hpt]; rfl)
    (fun i hi h => by
      show (if bit i then ((i : Int) + 1, Uf i, Cf i, Zf i) else ((i : Int) + 1, Vf i, Cf i, Zf i)).1 = _ ∧ acc _ _ r (if bit i then ((i : Int) + 1, Uf i, Cf i, Zf i) else ((i : Int) + 1, Vf i, Cf i, Zf i)) = false
      rw [h, if_pos rfl]
      exact ⟨rfl, by rw [hacc i hi]; exact hbad i hi h⟩)
  refine (Combine_any W p q _ ck _ cq r (cms lw lc) (LP lw) hy hr v _ hv (hT.below b)).mono ?_
  rintro e w' ⟨b', h⟩
  refine ⟨?_, b'⟩
  rcases h with ⟨h, _⟩ | ⟨_, bv, hb, h⟩
  · exact absurd (rgt_poll lw lc) h
  · rw [fR] at hb
    rw [fG, List.length_map, cms_len] at h
    refine ⟨bv, ?_, hb⟩
    rcases h with ⟨h, e⟩ | ⟨h, e⟩
    · rw [e, decide_eq_true (show (M : Int) - ((wan bit M).length : Int) < (nd lw : Int) by omega), if_pos rfl, if_pos rfl]
    · have hl := lf_const (cfs lw lc) (gd bit M) r (fun x hx => by have := gd_mem bit M x hx; omega) (gd_nodup bit M) (by omega) (by omega) (by rw [hhe]; exact hh0)
      rw [hNC, hhe] at hl
      rw [e, hl, decide_eq_false (show ¬ (M : Int) - ((wan bit M).length : Int) < (nd lw : Int) by omega)]
      rfl
end Go.Proofs.YtbfplapjjeeceaaGreatDoor.B9
