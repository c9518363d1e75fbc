/-
  The walk of the law BeaconRounds.
  The law BeaconRounds, for any poll.
-/
import Derived.Test.YtbfplapjjeeceaaGreatDoorBLk
import Derived.Test.YtbfplapjjeeceaaGreatDoorBSide
namespace Go.Proofs.YtbfplapjjeeceaaGreatDoor.B9
open Go.RowKit GM SH G4 E6 D7P
open W8 hiding i64 jn pX pY
theorem u8_conv9 (n : Int) (h : 0 ≤ n ∧ n ≤ 255) : IntKind.i64.wrap n = n := by rw [IntKind.wrap_i64]; omega
set_option maxRecDepth 100000 in
set_option maxHeartbeats 8000000 in
theorem rounds_core (w : World) (pw0 pw1 : Option Addr) (nw0 cw0 nw1 cw1 : Nat) (ra rb : Int) (nn : Nat) (hnn : nn ≤ 255) (CF C : List Int) (L : List (List Int)) (M : Nat) (hM0 : 0 < M) (hM : M ≤ 60) (NF : Nat) (hCF : CF.length = NF) (SHL : List (Int × Int)) (hSL : SHL.length = M)
    (x y v c z ba bb pub d u1 u2 rr u3 u4 tt ch : Int) (ac sm : Bool) (hxy : SHL[nn % M]? = some (x, y)) (hac : ba = bb → ac = true) (hsm : ¬ ba = bb → ac = sm) (hch : (ch == c) = sm) (hD : 1152921504606845789 - c = d) (hDw : IntKind.i64.wrap d = d)
    (SA : Hid (∀ W, Below w.heap.size w W → Calls Tryz.prog 10 #[] W fun e w' => e = .returned (.bool true) ∧ Below W.heap.size W w'))
    (MA : Hid (∀ W, Below w.heap.size w W → Calls Tryz.prog 16 #[.agg #[.slice pw0 nw0 cw0, .slice pw1 nw1 cw1]] W (MQ W CF C L)))
    (SH : Hid (∀ W (p q pc : Option Addr) (ck cq cc : Nat), KY W p q C.length ck L.length cq C L → SLi W (.slice pc CF.length cc) CF → Calls Tryz.prog 20 #[.slice pc CF.length cc, .agg #[.slice p C.length ck, .slice q L.length cq]] W fun e w' => (∃ sv, e = .returned sv ∧ ShL w' sv SHL) ∧ Below W.heap.size W w'))
    (BA : Hid (∀ W, Below w.heap.size w W → Calls Tryz.prog 12 #[.int .i64 ra] W fun e w' => e = .returned (.int .i64 ba) ∧ Below W.heap.size W w'))
    (BB : Hid (∀ W, Below w.heap.size w W → Calls Tryz.prog 12 #[.int .i64 rb] W fun e w' => e = .returned (.int .i64 bb) ∧ Below W.heap.size W w'))
    (EV : Hid (∀ W, Below w.heap.size w W → Calls Tryz.prog 14 #[.agg #[.int .i64 x, .int .i64 y], .int .i64 ra] W fun e w' => e = .returned (.agg #[.int .i64 x, .int .i64 v, .int .i64 c, .int .i64 z]) ∧ Below W.heap.size W w'))
    (VR : Hid (∀ W (p q : Option Addr) (ck cq : Nat), Below w.heap.size w W → KY W p q C.length ck L.length cq C L → Calls Tryz.prog 18 #[.agg #[.slice p C.length ck, .slice q L.length cq], .int .i64 rb, .agg #[.int .i64 x, .int .i64 v, .int .i64 c, .int .i64 z]] W fun e w' => e = .returned (.bool ac) ∧ Below W.heap.size W w'))
    (VA : Hid (∀ W (p q : Option Addr) (ck cq : Nat), Below w.heap.size w W → KY W p q C.length ck L.length cq C L → Calls Tryz.prog 18 #[.agg #[.slice p C.length ck, .slice q L.length cq], .int .i64 ra, .agg #[.int .i64 x, .int .i64 v, .int .i64 c, .int .i64 z]] W fun e w' => e = .returned (.bool true) ∧ Below W.heap.size W w'))
    (ME : Hid (∀ W, Calls Tryz.prog 32 #[.int .i64 ba] W fun e w' => e = .returned (.bool true) ∧ Below W.heap.size W w'))
    (MB : Hid (∀ W, Calls Tryz.prog 32 #[.int .i64 bb] W fun e w' => e = .returned (.bool true) ∧ Below W.heap.size W w'))
    (AT : Hid (∀ W (p : Option Addr) (ck : Nat), SLi W (.slice p C.length ck) C → Calls Tryz.prog 25 #[.slice p C.length ck, .int .i64 x] W fun e w' => e = .returned (.int .i64 pub) ∧ Below W.heap.size W w'))
    (P1 : Hid (∀ W, Calls Tryz.prog 21 #[.int .i64 4, .int .i64 z, .int .i64 2305843009213691579] W fun e w' => e = .returned (.int .i64 u1) ∧ Below W.heap.size W w'))
    (P2 : Hid (∀ W, Calls Tryz.prog 21 #[.int .i64 pub, .int .i64 d, .int .i64 2305843009213691579] W fun e w' => e = .returned (.int .i64 u2) ∧ Below W.heap.size W w'))
    (M1 : Hid (∀ W, Calls Tryz.prog 24 #[.int .i64 u1, .int .i64 u2, .int .i64 2305843009213691579] W fun e w' => e = .returned (.int .i64 rr) ∧ Below W.heap.size W w'))
    (P3 : Hid (∀ W, Calls Tryz.prog 21 #[.int .i64 bb, .int .i64 z, .int .i64 2305843009213691579] W fun e w' => e = .returned (.int .i64 u3) ∧ Below W.heap.size W w'))
    (P4 : Hid (∀ W, Calls Tryz.prog 21 #[.int .i64 v, .int .i64 d, .int .i64 2305843009213691579] W fun e w' => e = .returned (.int .i64 u4) ∧ Below W.heap.size W w'))
    (M2 : Hid (∀ W, Calls Tryz.prog 24 #[.int .i64 u3, .int .i64 u4, .int .i64 2305843009213691579] W fun e w' => e = .returned (.int .i64 tt) ∧ Below W.heap.size W w'))
    (CH : Hid (∀ W : World, Calls Tryz.prog 26 #[.slice (some ⟨W.heap.size, 0, none⟩) 6 6] (W.alloc (.cells #[.int .i64 4, .int .i64 pub, .int .i64 bb, .int .i64 v, .int .i64 rr, .int .i64 tt] 3)) fun e w' => e = .returned (.int .i64 ch) ∧ Below W.heap.size W w')) :
    Calls Tryz.prog 9 #[.agg #[.slice pw0 nw0 cw0, .slice pw1 nw1 cw1], .agg #[.int .i64 ra, .int .i64 rb], .int .u8 (nn : Int)] w fun e w' => e = .returned (.bool true) ∧ Below w.heap.size w w' := by
  obtain ⟨W, hW⟩ : ∃ W, (w.alloc (.cells #[.slice pw0 nw0 cw0, .slice pw1 nw1 cw1] 36)).alloc (.cells #[.int .i64 ra, .int .i64 rb] 24) = W := ⟨_, rfl⟩
  have K0 : CK w [(⟨w.heap.size, 0, none⟩, .slice pw0 nw0 cw0), (⟨w.heap.size, 1, none⟩, .slice pw1 nw1 cw1), (⟨w.heap.size + 1, 0, none⟩, .int .i64 ra), (⟨w.heap.size + 1, 1, none⟩, .int .i64 rb)] [] W := by
    have := ((CK.start w).cells #[.slice pw0 nw0 cw0, .slice pw1 nw1 cw1] 36 _ rfl).cells #[.int .i64 ra, .int .i64 rb] 24 _ rfl
    rw [hW, World.size_alloc] at this
    exact this.sub (by simp) (by simp)
  have HK := Lib.hid K0
  have HX := Lib.hid (And.intro hac (And.intro hsm (And.intro hch (And.intro hxy hSL))))
  clear K0 hac hsm hch hxy hSL
  go_enter Tryz.func9, Tryz.ntmps9
  go_upto_region 1 with fail
  clear hW
  go_wp2_with fail
  refine (SA.out _ HK.out.b).mono ?_
  rintro e w1 ⟨rfl, b1⟩
  replace HK := Lib.hid (HK.out.next b1); clear b1
  have c0 := HK.out.get ⟨w.heap.size, 0, none⟩ (.slice pw0 nw0 cw0) (by simp)
  have c1 := HK.out.get ⟨w.heap.size, 1, none⟩ (.slice pw1 nw1 cw1) (by simp)
  go_wp2_with fail
  refine (MA.out _ HK.out.b).mono ?_
  rintro e w2 ⟨⟨pc, pk, pq, cc, ck, cq, rfl, hs, hy⟩, b2⟩
  have hLK := lk_start (HK.out.b.trans (b2.mono HK.out.b.size)) hs hy
  have hC2 := HK.out.next b2
  clear b2 hs hy HK c0 c1
  obtain ⟨NC, hNC⟩ : ∃ n, C.length = n := ⟨_, rfl⟩
  obtain ⟨NL, hNL⟩ : ∃ n, L.length = n := ⟨_, rfl⟩
  rw [hNC, hNL] at hLK SH VR VA ⊢
  rw [hNC] at AT
  rw [hCF] at hLK SH ⊢
  clear hNC hNL
  go_upto_region 3 with fail
  have hC3 := (hC2.sub (M := [(⟨w.heap.size + 1, 0, none⟩, .int .i64 ra), (⟨w.heap.size + 1, 1, none⟩, .int .i64 rb)]) (Y := []) (by simp) (by simp)).next ((Below.refl _ w2).alloc (Nat.le_refl _) (.cells #[.slice pk NC ck, .slice pq NL cq] 41))
  clear hC2
  obtain ⟨W3, hW3⟩ : ∃ V, w2.alloc (.cells #[.slice pk NC ck, .slice pq NL cq] 41) = V := ⟨_, rfl⟩
  rw [hW3] at hLK hC3 ⊢
  obtain ⟨gk, hgk⟩ : ∃ g, w2.heap.size = g := ⟨_, rfl⟩
  rw [hgk] at hLK ⊢
  have HLK := Lib.hid hLK
  have HC := Lib.hid hC3
  clear hLK hW3 hgk hC3 hCF
  have c0 := HLK.out.c0
  have c1 := HLK.out.c1
  go_wp2_with fail
  refine (SH.out _ pk pq pc ck cq cc HLK.out.y HLK.out.s).mono ?_
  rintro e W0 ⟨⟨sv, rfl, hsh⟩, b4⟩
  replace HLK := Lib.hid (HLK.out.next b4)
  replace HC := Lib.hid (HC.out.next b4)
  obtain ⟨⟨ps, cs, rfl, hcs⟩, hsr, _⟩ := hsh
  obtain ⟨b, o, hp, hc0, hc1⟩ := hcs _ _ HX.out.2.2.2.1
  subst hp
  rw [HX.out.2.2.2.2]
  clear b4 c0 c1 hcs hsr SH MA SA
  dsimp only at hc0 hc1
  have hrm : Int.tmod (nn : Int) (M : Int) = ((nn % M : Nat) : Int) := by rw [Int.tmod_eq_emod_of_nonneg (by omega)]; rfl
  have hml := Nat.mod_lt nn hM0
  obtain ⟨j, hj⟩ : ∃ j, nn % M = j := ⟨_, rfl⟩
  rw [hj] at hc0 hc1 hrm hml
  have hmi : (j : Int) < (M : Int) := by omega
  have hm0 : ¬ ((M : Int) = 0) := by omega
  have hcv := u8_conv9 (nn : Int) ⟨by omega, by omega⟩
  clear hj
  go_upto_region 5 with fail
  obtain ⟨W4, hW4⟩ : ∃ V, W0.alloc (.cells #[.int .i64 x, .int .i64 y] 23) = V := ⟨_, rfl⟩
  rw [hW4]
  have b4 : Below W0.heap.size W0 W4 := by rw [← hW4]; exact (Below.refl W0.heap.size W0).alloc (Nat.le_refl _) _
  have e0 : W4.cell? ⟨W0.heap.size, 0, none⟩ = some (.int .i64 x) := by rw [← hW4, World.cell?_alloc_at _ _ _ _ rfl]; rfl
  have e1 : W4.cell? ⟨W0.heap.size, 1, none⟩ = some (.int .i64 y) := by rw [← hW4, World.cell?_alloc_at _ _ _ _ rfl]; rfl
  replace HLK := Lib.hid (HLK.out.next b4)
  replace HC := Lib.hid (HC.out.next b4)
  clear hW4 b4 hc0 hc1 hrm hml hmi hm0 hcv
  obtain ⟨gs, hgs⟩ : ∃ g, W0.heap.size = g := ⟨_, rfl⟩
  rw [hgs] at e0 e1 ⊢
  clear hgs
  have HC1 : Hid (CK w [(⟨gs, 0, none⟩, .int .i64 x), (⟨gs, 1, none⟩, .int .i64 y), (⟨gk, 0, none⟩, .slice pk NC ck), (⟨gk, 1, none⟩, .slice pq NL cq), (⟨w.heap.size + 1, 0, none⟩, .int .i64 ra), (⟨w.heap.size + 1, 1, none⟩, .int .i64 rb)] [] W4) := Lib.hid ⟨HC.out.b, fun q hq => by
    simp only [List.mem_cons, List.not_mem_nil, or_false] at hq
    rcases hq with rfl | rfl | rfl | rfl | rfl | rfl
    · exact e0
    · exact e1
    · exact HLK.out.c0
    · exact HLK.out.c1
    · exact HC.out.get _ _ (by simp)
    · exact HC.out.get _ _ (by simp), fun q hq => by cases hq⟩
  clear HC e0 e1
  have HC := HC1
  clear HC1
  go_upto_region 5 with fail
  replace HLK := Lib.hid (HLK.out.next (Below.refl _ _).drew)
  refine wp_region_held_drew (S := CK w [(⟨gs, 0, none⟩, .int .i64 x), (⟨gs, 1, none⟩, .int .i64 y), (⟨gk, 0, none⟩, .slice pk NC ck), (⟨gk, 1, none⟩, .slice pq NL cq), (⟨w.heap.size + 1, 0, none⟩, .int .i64 ra), (⟨w.heap.size + 1, 1, none⟩, .int .i64 rb)] []) (by kernel_rfl) HC.out.drew (fun hS => ?_)
  clear HC
  generalize World.drew W4 = W4 at hS HLK ⊢
  refine wpAnyH_take (i := 0) (oi := { dst := some 38, op := Op.indexAddr 24 (Operand.tmp 4) (Operand.const (Value.int IntKind.i64 0)), type := 0, pos := "law.go:156", after := #[], guard := none }) (v := ?vra0) rfl (by kernel_rfl) (by kernel_rfl) (by kernel_rfl) (fun _ _ _ h => h) (Or.inl ⟨by rfl, ?yra0⟩) hS ?rra0
  case yra0 => (intro w hS; go_simp; try with_reducible rfl)
  refine wpAnyH_take (i := 3) (oi := { dst := some 41, op := Op.indexAddr 24 (Operand.tmp 4) (Operand.const (Value.int IntKind.i64 1)), type := 0, pos := "law.go:156", after := #[], guard := none }) (v := ?vra3) rfl (by kernel_rfl) (by kernel_rfl) (by kernel_rfl) (fun _ _ _ h => h) (Or.inl ⟨by rfl, ?yra3⟩) hS ?rra3
  case yra3 => (intro w hS; go_simp; try with_reducible rfl)
  go_simp
  refine wpAnyH_take (i := 1) (oi := { dst := some 39, op := Op.load 3 (Operand.tmp 38), type := 3, pos := "law.go:156", after := #[{ on := 0, ground := Ground.data }], guard := none }) (v := .int .i64 ra) rfl (by kernel_rfl) (by kernel_rfl) (by kernel_rfl) (fun _ _ _ h => h) (Or.inl ⟨by rfl, ?yra1⟩) hS ?rra1
  case yra1 => (intro w' hS; have cf := hS.get ⟨w.heap.size + 1, 0, none⟩ (.int .i64 ra) (by simp); go_simp; try with_reducible rfl)
  refine wpAnyH_take (i := 4) (oi := { dst := some 42, op := Op.load 3 (Operand.tmp 41), type := 3, pos := "law.go:156", after := #[{ on := 3, ground := Ground.data }], guard := none }) (v := .int .i64 rb) rfl (by kernel_rfl) (by kernel_rfl) (by kernel_rfl) (fun _ _ _ h => h) (Or.inl ⟨by rfl, ?yra4⟩) hS ?rra4
  case yra4 => (intro w' hS; have cf := hS.get ⟨w.heap.size + 1, 1, none⟩ (.int .i64 rb) (by simp); go_simp; try with_reducible rfl)
  go_simp
  refine wpAnyH_ready (rs := [2]) (by kernel_rfl) (by simp) ?_
  refine AllReadyH.cons (o := { dst := some 40, op := Op.call { callee := Callee.value (Operand.func 12), args := #[Operand.tmp 39], argTypes := #[3] }, type := 3, pos := "law.go:156", after := #[{ on := 1, ground := Ground.data }], guard := none }) rfl (fun K hK => ?_) AllReadyH.nil
  go_simp
  go_at_call 12
  refine (BA.out _ hS.b).mono ?_
  rintro e w' ⟨rfl, b⟩
  have hS2 := hS.next b
  replace HLK := Lib.hid (HLK.out.next b)
  clear b hS
  try go_simp
  refine hK.out _ _ hS2 (fun hS => ?_)
  clear hK K hS2
  refine wpAnyH_ready (rs := [5]) (by kernel_rfl) (by simp) ?_
  refine AllReadyH.cons (o := { dst := some 43, op := Op.call { callee := Callee.value (Operand.func 12), args := #[Operand.tmp 42], argTypes := #[3] }, type := 3, pos := "law.go:156", after := #[{ on := 4, ground := Ground.data }, { on := 2, ground := Ground.chain }], guard := none }) rfl (fun K hK => ?_) AllReadyH.nil
  go_simp
  go_at_call 12
  refine (BB.out _ hS.b).mono ?_
  rintro e w' ⟨rfl, b⟩
  have hS2 := hS.next b
  replace HLK := Lib.hid (HLK.out.next b)
  clear b hS
  try go_simp
  refine hK.out _ _ hS2 (fun hS => ?_)
  clear hK K hS2
  refine wpAnyH_take (i := 6) (oi := { dst := some 12, op := Op.assign (Operand.tmp 40), type := 3, pos := "law.go:156", after := #[{ on := 2, ground := Ground.data }, { on := 5, ground := Ground.chain }, { on := 0, ground := Ground.phase }, { on := 1, ground := Ground.phase }, { on := 2, ground := Ground.phase }, { on := 3, ground := Ground.textOnly Departure.lateStores }, { on := 4, ground := Ground.textOnly Departure.lateStores }, { on := 5, ground := Ground.textOnly Departure.lateStoresUnsure }], guard := none }) (v := ?vra6) rfl (by kernel_rfl) (by kernel_rfl) (by kernel_rfl) (fun _ _ _ h => h) (Or.inl ⟨by rfl, ?yra6⟩) hS ?rra6
  case yra6 => (intro w hS; go_simp; try with_reducible rfl)
  go_simp
  refine wpAnyH_take (i := 7) (oi := { dst := some 13, op := Op.assign (Operand.tmp 43), type := 3, pos := "law.go:156", after := #[{ on := 5, ground := Ground.data }, { on := 6, ground := Ground.chain }, { on := 0, ground := Ground.phase }, { on := 1, ground := Ground.phase }, { on := 2, ground := Ground.phase }, { on := 3, ground := Ground.phase }, { on := 4, ground := Ground.phase }, { on := 5, ground := Ground.phase }, { on := 6, ground := Ground.phase }], guard := none }) (v := ?vra7) rfl (by kernel_rfl) (by kernel_rfl) (by kernel_rfl) (fun _ _ _ h => h) (Or.inl ⟨by rfl, ?yra7⟩) hS ?rra7
  case yra7 => (intro w hS; go_simp; try with_reducible rfl)
  refine wpAnyH_done (by kernel_rfl) ?_ _
  have HC := Lib.hid hS; clear hS
  have q0 := HC.out.get ⟨gs, 0, none⟩ (.int .i64 x) (by simp)
  have q1 := HC.out.get ⟨gs, 1, none⟩ (.int .i64 y) (by simp)
  have q2 := HC.out.get ⟨gk, 0, none⟩ (.slice pk NC ck) (by simp)
  have q3 := HC.out.get ⟨gk, 1, none⟩ (.slice pq NL cq) (by simp)
  have q4 := HC.out.get ⟨w.heap.size + 1, 0, none⟩ (.int .i64 ra) (by simp)
  have q5 := HC.out.get ⟨w.heap.size + 1, 1, none⟩ (.int .i64 rb) (by simp)
  go_wp2_with fail
  refine (EV.out _ HC.out.b).mono ?_
  rintro e w6 ⟨rfl, b⟩
  replace HC := Lib.hid (HC.out.next b)
  replace HLK := Lib.hid (HLK.out.next b)
  clear b
  clear q0 q1 q2 q3 q4 q5
  go_upto_region 7 with fail
  obtain ⟨W7, hW7⟩ : ∃ V, w6.alloc (.cells #[.int .i64 x, .int .i64 v, .int .i64 c, .int .i64 z] 30) = V := ⟨_, rfl⟩
  rw [hW7]
  have b7 : Below w6.heap.size w6 W7 := by rw [← hW7]; exact (Below.refl w6.heap.size w6).alloc (Nat.le_refl _) _
  have hm : W7.heap[w6.heap.size]? = some (.cells #[.int .i64 x, .int .i64 v, .int .i64 c, .int .i64 z] 30 (0, 0)) := by rw [← hW7]; exact heap_alloc_new _ _
  replace HLK := Lib.hid (HLK.out.next b7)
  replace HC := Lib.hid (HC.out.next b7)
  obtain ⟨gx, hgx⟩ : ∃ g, w6.heap.size = g := ⟨_, rfl⟩
  rw [hgx] at hm ⊢
  clear hW7 b7 hgx
  have HC1 : Hid (CK w [(⟨gx, 0, none⟩, .int .i64 x), (⟨gx, 1, none⟩, .int .i64 v), (⟨gx, 2, none⟩, .int .i64 c), (⟨gx, 3, none⟩, .int .i64 z), (⟨gs, 0, none⟩, .int .i64 x), (⟨gs, 1, none⟩, .int .i64 y), (⟨gk, 0, none⟩, .slice pk NC ck), (⟨gk, 1, none⟩, .slice pq NL cq), (⟨w.heap.size + 1, 0, none⟩, .int .i64 ra), (⟨w.heap.size + 1, 1, none⟩, .int .i64 rb)] [] W7) := Lib.hid ⟨HC.out.b, fun q hq => by
    simp only [List.mem_cons, List.not_mem_nil, or_false] at hq
    rcases hq with rfl | rfl | rfl | rfl | rfl | rfl | rfl | rfl | rfl | rfl
    · exact cell_of_row _ gx 0 _ _ _ hm
    · exact cell_of_row _ gx 1 _ _ _ hm
    · exact cell_of_row _ gx 2 _ _ _ hm
    · exact cell_of_row _ gx 3 _ _ _ hm
    all_goals exact HC.out.get _ _ (by simp), fun q hq => by cases hq⟩
  clear HC hm
  have HC := HC1
  clear HC1
  have q0 := HC.out.get ⟨gx, 0, none⟩ (.int .i64 x) (by simp)
  have q1 := HC.out.get ⟨gx, 1, none⟩ (.int .i64 v) (by simp)
  have q2 := HC.out.get ⟨gx, 2, none⟩ (.int .i64 c) (by simp)
  have q3 := HC.out.get ⟨gx, 3, none⟩ (.int .i64 z) (by simp)
  have q4 := HC.out.get ⟨gs, 0, none⟩ (.int .i64 x) (by simp)
  have q5 := HC.out.get ⟨gs, 1, none⟩ (.int .i64 y) (by simp)
  have q6 := HC.out.get ⟨gk, 0, none⟩ (.slice pk NC ck) (by simp)
  have q7 := HC.out.get ⟨gk, 1, none⟩ (.slice pq NL cq) (by simp)
  have q8 := HC.out.get ⟨w.heap.size + 1, 0, none⟩ (.int .i64 ra) (by simp)
  have q9 := HC.out.get ⟨w.heap.size + 1, 1, none⟩ (.int .i64 rb) (by simp)
  go_wp2_with fail
  refine (VR.out _ pk pq ck cq HC.out.b HLK.out.y).mono ?_
  rintro e w8 ⟨rfl, b⟩
  replace HC := Lib.hid (HC.out.next b)
  replace HLK := Lib.hid (HLK.out.next b)
  clear b
  clear q0 q1 q2 q3 q4 q5 q6 q7 q8 q9
  by_cases hab : ba = bb
  · have ha := HX.out.1 hab
    subst hab ha
    have hbb : (ba == ba) = true := by simp
    go_wp2_with fail
    refine (ME.out _).mono ?_
    rintro e w9 ⟨rfl, b⟩
    replace HC := Lib.hid (HC.out.next b)
    clear b
    go_wp2
    go_ret
    exact ⟨rfl, HC.out.b⟩
  have hs := HX.out.2.1 hab
  subst hs
  have hbb : (ba == bb) = false := by rw [beq_eq_false_iff_ne]; exact hab
  have hcc := HX.out.2.2.1
  go_upto_region 10 with fail
  replace HLK := Lib.hid (HLK.out.next (Below.refl _ _).drew)
  refine wp_region_held_drew (S := CK w [(⟨gx, 0, none⟩, .int .i64 x), (⟨gx, 1, none⟩, .int .i64 v), (⟨gx, 2, none⟩, .int .i64 c), (⟨gx, 3, none⟩, .int .i64 z), (⟨gs, 0, none⟩, .int .i64 x), (⟨gs, 1, none⟩, .int .i64 y), (⟨gk, 0, none⟩, .slice pk NC ck), (⟨gk, 1, none⟩, .slice pq NL cq), (⟨w.heap.size + 1, 0, none⟩, .int .i64 ra), (⟨w.heap.size + 1, 1, none⟩, .int .i64 rb)] []) (by kernel_rfl) HC.out.drew (fun hS => ?_)
  clear HC
  generalize World.drew w8 = w8 at hS HLK ⊢
  refine wpAnyH_take (i := 0) (oi := { dst := some 64, op := Op.fieldAddr 41 (Operand.tmp 9) 0, type := 0, pos := "law.go:162", after := #[], guard := none }) (v := ?vrb0) rfl (by kernel_rfl) (by kernel_rfl) (by kernel_rfl) (fun _ _ _ h => h) (Or.inl ⟨by rfl, ?yrb0⟩) hS ?rrb0
  case yrb0 => (intro w hS; go_simp; try with_reducible rfl)
  refine wpAnyH_take (i := 2) (oi := { dst := some 66, op := Op.fieldAddr 23 (Operand.tmp 11) 0, type := 0, pos := "law.go:162", after := #[], guard := none }) (v := ?vrb2) rfl (by kernel_rfl) (by kernel_rfl) (by kernel_rfl) (fun _ _ _ h => h) (Or.inl ⟨by rfl, ?yrb2⟩) hS ?rrb2
  case yrb2 => (intro w hS; go_simp; try with_reducible rfl)
  refine wpAnyH_take (i := 5) (oi := { dst := some 69, op := Op.fieldAddr 30 (Operand.tmp 14) 2, type := 0, pos := "law.go:162", after := #[{ on := 8, ground := Ground.gcOnly Departure.lateStores }], guard := none }) (v := ?vrb5) rfl (by kernel_rfl) (by kernel_rfl) (by kernel_rfl) (fun _ _ _ h => h) (Or.inl ⟨by rfl, ?yrb5⟩) hS ?rrb5
  case yrb5 => (intro w hS; go_simp; try with_reducible rfl)
  go_simp
  refine wpAnyH_take (i := 1) (oi := { dst := some 65, op := Op.load 34 (Operand.tmp 64), type := 34, pos := "law.go:162", after := #[{ on := 0, ground := Ground.data }], guard := none }) (v := .slice pk NC ck) rfl (by kernel_rfl) (by kernel_rfl) (by kernel_rfl) (fun _ _ _ h => h) (Or.inl ⟨by rfl, ?yrb1⟩) hS ?rrb1
  case yrb1 => (intro w' hS; have cf := hS.get ⟨gk, 0, none⟩ (.slice pk NC ck) (by simp); go_simp; try with_reducible rfl)
  refine wpAnyH_take (i := 3) (oi := { dst := some 67, op := Op.load 3 (Operand.tmp 66), type := 3, pos := "law.go:162", after := #[{ on := 2, ground := Ground.data }], guard := none }) (v := .int .i64 x) rfl (by kernel_rfl) (by kernel_rfl) (by kernel_rfl) (fun _ _ _ h => h) (Or.inl ⟨by rfl, ?yrb3⟩) hS ?rrb3
  case yrb3 => (intro w' hS; have cf := hS.get ⟨gs, 0, none⟩ (.int .i64 x) (by simp); go_simp; try with_reducible rfl)
  refine wpAnyH_take (i := 6) (oi := { dst := some 70, op := Op.fieldAddr 28 (Operand.tmp 69) 0, type := 0, pos := "law.go:162", after := #[{ on := 5, ground := Ground.data }, { on := 8, ground := Ground.gcOnly Departure.lateStores }], guard := none }) (v := ?vrb6) rfl (by kernel_rfl) (by kernel_rfl) (by kernel_rfl) (fun _ _ _ h => h) (Or.inl ⟨by rfl, ?yrb6⟩) hS ?rrb6
  case yrb6 => (intro w hS; go_simp; try with_reducible rfl)
  go_simp
  refine wpAnyH_take (i := 7) (oi := { dst := some 71, op := Op.load 3 (Operand.tmp 70), type := 3, pos := "law.go:162", after := #[{ on := 6, ground := Ground.data }, { on := 8, ground := Ground.gcOnly Departure.lateStores }], guard := none }) (v := .int .i64 c) rfl (by kernel_rfl) (by kernel_rfl) (by kernel_rfl) (fun _ _ _ h => h) (Or.inl ⟨by rfl, ?yrb7⟩) hS ?rrb7
  case yrb7 => (intro w' hS; have cf := hS.get ⟨gx, 2, none⟩ (.int .i64 c) (by simp); go_simp; try with_reducible rfl)
  go_simp
  refine wpAnyH_ready (rs := [4]) (by kernel_rfl) (by simp) ?_
  refine AllReadyH.cons (o := { dst := some 68, op := Op.call { callee := Callee.value (Operand.func 25), args := #[Operand.tmp 65, Operand.tmp 67], argTypes := #[34, 3] }, type := 3, pos := "law.go:162", after := #[{ on := 1, ground := Ground.data }, { on := 3, ground := Ground.data }], guard := none }) rfl (fun K hK => ?_) AllReadyH.nil
  go_simp
  go_at_call 25
  refine (AT.out _ _ _ HLK.out.y.c).mono ?_
  rintro e w' ⟨rfl, b⟩
  have hS2 := hS.next b
  replace HLK := Lib.hid (HLK.out.next b)
  clear b hS
  try go_simp
  refine hK.out _ _ hS2 (fun hS => ?_)
  clear hK K hS2
  refine wpAnyH_take (i := 8) (oi := { dst := some 16, op := Op.assign (Operand.tmp 68), type := 3, pos := "law.go:162", after := #[{ on := 4, ground := Ground.data }, { on := 4, ground := Ground.chain }, { on := 0, ground := Ground.phase }, { on := 1, ground := Ground.phase }, { on := 2, ground := Ground.phase }, { on := 3, ground := Ground.phase }, { on := 4, ground := Ground.phase }, { on := 5, ground := Ground.textOnly Departure.lateStores }, { on := 6, ground := Ground.textOnly Departure.lateStores }, { on := 7, ground := Ground.textOnly Departure.lateStores }], guard := none }) (v := ?vrb8) rfl (by kernel_rfl) (by kernel_rfl) (by kernel_rfl) (fun _ _ _ h => h) (Or.inl ⟨by rfl, ?yrb8⟩) hS ?rrb8
  case yrb8 => (intro w hS; go_simp; try with_reducible rfl)
  go_simp
  refine wpAnyH_take (i := 9) (oi := { dst := some 17, op := Op.assign (Operand.tmp 71), type := 3, pos := "law.go:162", after := #[{ on := 7, ground := Ground.data }, { on := 8, ground := Ground.chain }, { on := 0, ground := Ground.phase }, { on := 1, ground := Ground.phase }, { on := 2, ground := Ground.phase }, { on := 3, ground := Ground.phase }, { on := 4, ground := Ground.phase }, { on := 5, ground := Ground.phase }, { on := 6, ground := Ground.phase }, { on := 7, ground := Ground.phase }, { on := 8, ground := Ground.phase }], guard := none }) (v := ?vrb9) rfl (by kernel_rfl) (by kernel_rfl) (by kernel_rfl) (fun _ _ _ h => h) (Or.inl ⟨by rfl, ?yrb9⟩) hS ?rrb9
  case yrb9 => (intro w hS; go_simp; try with_reducible rfl)
  refine wpAnyH_done (by kernel_rfl) ?_ _
  have HC := Lib.hid hS; clear hS
  have q0 := HC.out.get ⟨gx, 0, none⟩ (.int .i64 x) (by simp)
  have q1 := HC.out.get ⟨gx, 1, none⟩ (.int .i64 v) (by simp)
  have q2 := HC.out.get ⟨gx, 2, none⟩ (.int .i64 c) (by simp)
  have q3 := HC.out.get ⟨gx, 3, none⟩ (.int .i64 z) (by simp)
  have q4 := HC.out.get ⟨gs, 0, none⟩ (.int .i64 x) (by simp)
  have q5 := HC.out.get ⟨gs, 1, none⟩ (.int .i64 y) (by simp)
  have q6 := HC.out.get ⟨gk, 0, none⟩ (.slice pk NC ck) (by simp)
  have q7 := HC.out.get ⟨gk, 1, none⟩ (.slice pq NL cq) (by simp)
  have q8 := HC.out.get ⟨w.heap.size + 1, 0, none⟩ (.int .i64 ra) (by simp)
  have q9 := HC.out.get ⟨w.heap.size + 1, 1, none⟩ (.int .i64 rb) (by simp)
  go_wp2_with fail
  refine (P1.out _).mono ?_
  rintro e w10 ⟨rfl, b⟩
  replace HC := Lib.hid (HC.out.next b)
  replace HLK := Lib.hid (HLK.out.next b)
  clear b
  go_wp2_with fail
  refine (P2.out _).mono ?_
  rintro e w11 ⟨rfl, b⟩
  replace HC := Lib.hid (HC.out.next b)
  replace HLK := Lib.hid (HLK.out.next b)
  clear b
  go_wp2_with fail
  refine (M1.out _).mono ?_
  rintro e w12 ⟨rfl, b⟩
  replace HC := Lib.hid (HC.out.next b)
  replace HLK := Lib.hid (HLK.out.next b)
  clear b
  clear q0 q1 q2 q3 q4 q5 q6 q7 q8 q9
  go_upto_region 12 with fail
  replace HLK := Lib.hid (HLK.out.next (Below.refl _ _).drew)
  refine wp_region_held_drew (S := CK w [(⟨gx, 0, none⟩, .int .i64 x), (⟨gx, 1, none⟩, .int .i64 v), (⟨gx, 2, none⟩, .int .i64 c), (⟨gx, 3, none⟩, .int .i64 z), (⟨gs, 0, none⟩, .int .i64 x), (⟨gs, 1, none⟩, .int .i64 y), (⟨gk, 0, none⟩, .slice pk NC ck), (⟨gk, 1, none⟩, .slice pq NL cq), (⟨w.heap.size + 1, 0, none⟩, .int .i64 ra), (⟨w.heap.size + 1, 1, none⟩, .int .i64 rb)] []) (by kernel_rfl) HC.out.drew (fun hS => ?_)
  clear HC
  generalize World.drew w12 = w12 at hS HLK ⊢
  refine wpAnyH_take (i := 0) (oi := { dst := some 81, op := Op.move (Operand.tmp 13), type := 3, pos := "law.go:164", after := #[], guard := none }) (v := ?vrc0) rfl (by kernel_rfl) (by kernel_rfl) (by kernel_rfl) (fun _ _ _ h => h) (Or.inl ⟨by rfl, ?yrc0⟩) hS ?rrc0
  case yrc0 => (intro w hS; go_simp; try with_reducible rfl)
  refine wpAnyH_take (i := 1) (oi := { dst := some 82, op := Op.fieldAddr 30 (Operand.tmp 14) 2, type := 0, pos := "law.go:164", after := #[], guard := none }) (v := ?vrc1) rfl (by kernel_rfl) (by kernel_rfl) (by kernel_rfl) (fun _ _ _ h => h) (Or.inl ⟨by rfl, ?yrc1⟩) hS ?rrc1
  case yrc1 => (intro w hS; go_simp; try with_reducible rfl)
  refine wpAnyH_take (i := 5) (oi := { dst := some 86, op := Op.fieldAddr 30 (Operand.tmp 14) 1, type := 0, pos := "law.go:164", after := #[], guard := none }) (v := ?vrc5) rfl (by kernel_rfl) (by kernel_rfl) (by kernel_rfl) (fun _ _ _ h => h) (Or.inl ⟨by rfl, ?yrc5⟩) hS ?rrc5
  case yrc5 => (intro w hS; go_simp; try with_reducible rfl)
  refine wpAnyH_take (i := 7) (oi := { dst := some 88, op := Op.move (Operand.tmp 17), type := 3, pos := "law.go:164", after := #[], guard := none }) (v := ?vrc7) rfl (by kernel_rfl) (by kernel_rfl) (by kernel_rfl) (fun _ _ _ h => h) (Or.inl ⟨by rfl, ?yrc7⟩) hS ?rrc7
  case yrc7 => (intro w hS; go_simp; try with_reducible rfl)
  go_simp
  refine wpAnyH_take (i := 2) (oi := { dst := some 83, op := Op.fieldAddr 28 (Operand.tmp 82) 1, type := 0, pos := "law.go:164", after := #[{ on := 1, ground := Ground.data }], guard := none }) (v := ?vrc2) rfl (by kernel_rfl) (by kernel_rfl) (by kernel_rfl) (fun _ _ _ h => h) (Or.inl ⟨by rfl, ?yrc2⟩) hS ?rrc2
  case yrc2 => (intro w hS; go_simp; try with_reducible rfl)
  refine wpAnyH_take (i := 6) (oi := { dst := some 87, op := Op.load 3 (Operand.tmp 86), type := 3, pos := "law.go:164", after := #[{ on := 5, ground := Ground.data }], guard := none }) (v := .int .i64 v) rfl (by kernel_rfl) (by kernel_rfl) (by kernel_rfl) (fun _ _ _ h => h) (Or.inl ⟨by rfl, ?yrc6⟩) hS ?rrc6
  case yrc6 => (intro w' hS; have cf := hS.get ⟨gx, 1, none⟩ (.int .i64 v) (by simp); go_simp; try with_reducible rfl)
  refine wpAnyH_take (i := 8) (oi := { dst := some 89, op := Op.binOp BinOp.sub 3 (Operand.const (Value.int IntKind.i64 1152921504606845789)) (Operand.tmp 88) 3, type := 3, pos := "law.go:164", after := #[{ on := 7, ground := Ground.data }], guard := none }) (v := ?vrc8) rfl (by kernel_rfl) (by kernel_rfl) (by kernel_rfl) (fun _ _ _ h => h) (Or.inl ⟨by rfl, ?yrc8⟩) hS ?rrc8
  case yrc8 => (intro w hS; go_simp; try with_reducible rfl)
  go_simp
  refine wpAnyH_take (i := 3) (oi := { dst := some 84, op := Op.load 3 (Operand.tmp 83), type := 3, pos := "law.go:164", after := #[{ on := 2, ground := Ground.data }], guard := none }) (v := .int .i64 z) rfl (by kernel_rfl) (by kernel_rfl) (by kernel_rfl) (fun _ _ _ h => h) (Or.inl ⟨by rfl, ?yrc3⟩) hS ?rrc3
  case yrc3 => (intro w' hS; have cf := hS.get ⟨gx, 3, none⟩ (.int .i64 z) (by simp); go_simp; try with_reducible rfl)
  go_simp
  refine wpAnyH_ready (rs := [4]) (by kernel_rfl) (by simp) ?_
  refine AllReadyH.cons (o := { dst := some 85, op := Op.call { callee := Callee.value (Operand.func 21), args := #[Operand.tmp 81, Operand.tmp 84, Operand.const (Value.int IntKind.i64 2305843009213691579)], argTypes := #[3, 3, 3] }, type := 3, pos := "law.go:164", after := #[{ on := 0, ground := Ground.data }, { on := 3, ground := Ground.data }], guard := none }) rfl (fun K hK => ?_) AllReadyH.nil
  go_simp
  go_at_call 21
  refine (P3.out _).mono ?_
  rintro e w' ⟨rfl, b⟩
  have hS2 := hS.next b
  replace HLK := Lib.hid (HLK.out.next b)
  clear b hS
  try go_simp
  refine hK.out _ _ hS2 (fun hS => ?_)
  clear hK K hS2
  refine wpAnyH_ready (rs := [9]) (by kernel_rfl) (by simp) ?_
  refine AllReadyH.cons (o := { dst := some 90, op := Op.call { callee := Callee.value (Operand.func 21), args := #[Operand.tmp 87, Operand.tmp 89, Operand.const (Value.int IntKind.i64 2305843009213691579)], argTypes := #[3, 3, 3] }, type := 3, pos := "law.go:164", after := #[{ on := 6, ground := Ground.data }, { on := 8, ground := Ground.data }, { on := 4, ground := Ground.chain }], guard := none }) rfl (fun K hK => ?_) AllReadyH.nil
  go_simp
  go_at_call 21
  refine (P4.out _).mono ?_
  rintro e w' ⟨rfl, b⟩
  have hS2 := hS.next b
  replace HLK := Lib.hid (HLK.out.next b)
  clear b hS
  try go_simp
  refine hK.out _ _ hS2 (fun hS => ?_)
  clear hK K hS2
  refine wpAnyH_ready (rs := [10]) (by kernel_rfl) (by simp) ?_
  refine AllReadyH.cons (o := { dst := some 91, op := Op.call { callee := Callee.value (Operand.func 24), args := #[Operand.tmp 85, Operand.tmp 90, Operand.const (Value.int IntKind.i64 2305843009213691579)], argTypes := #[3, 3, 3] }, type := 3, pos := "law.go:164", after := #[{ on := 4, ground := Ground.data }, { on := 9, ground := Ground.data }, { on := 9, ground := Ground.chain }], guard := none }) rfl (fun K hK => ?_) AllReadyH.nil
  go_simp
  go_at_call 24
  refine (M2.out _).mono ?_
  rintro e w' ⟨rfl, b⟩
  have hS2 := hS.next b
  replace HLK := Lib.hid (HLK.out.next b)
  clear b hS
  try go_simp
  refine hK.out _ _ hS2 (fun hS => ?_)
  clear hK K hS2
  refine wpAnyH_take (i := 11) (oi := { dst := some 19, op := Op.assign (Operand.tmp 91), type := 3, pos := "law.go:164", after := #[{ on := 10, ground := Ground.data }, { on := 10, ground := Ground.chain }, { on := 0, ground := Ground.phase }, { on := 1, ground := Ground.phase }, { on := 2, ground := Ground.phase }, { on := 3, ground := Ground.phase }, { on := 4, ground := Ground.phase }, { on := 5, ground := Ground.phase }, { on := 6, ground := Ground.phase }, { on := 7, ground := Ground.phase }, { on := 8, ground := Ground.phase }, { on := 9, ground := Ground.phase }, { on := 10, ground := Ground.phase }], guard := none }) (v := ?vrc11) rfl (by kernel_rfl) (by kernel_rfl) (by kernel_rfl) (fun _ _ _ h => h) (Or.inl ⟨by rfl, ?yrc11⟩) hS ?rrc11
  case yrc11 => (intro w hS; go_simp; try with_reducible rfl)
  refine wpAnyH_done (by kernel_rfl) ?_ _
  have HC := Lib.hid hS; clear hS
  have q0 := HC.out.get ⟨gx, 0, none⟩ (.int .i64 x) (by simp)
  have q1 := HC.out.get ⟨gx, 1, none⟩ (.int .i64 v) (by simp)
  have q2 := HC.out.get ⟨gx, 2, none⟩ (.int .i64 c) (by simp)
  have q3 := HC.out.get ⟨gx, 3, none⟩ (.int .i64 z) (by simp)
  have q4 := HC.out.get ⟨gs, 0, none⟩ (.int .i64 x) (by simp)
  have q5 := HC.out.get ⟨gs, 1, none⟩ (.int .i64 y) (by simp)
  have q6 := HC.out.get ⟨gk, 0, none⟩ (.slice pk NC ck) (by simp)
  have q7 := HC.out.get ⟨gk, 1, none⟩ (.slice pq NL cq) (by simp)
  have q8 := HC.out.get ⟨w.heap.size + 1, 0, none⟩ (.int .i64 ra) (by simp)
  have q9 := HC.out.get ⟨w.heap.size + 1, 1, none⟩ (.int .i64 rb) (by simp)
  go_wp2_with fail
  refine (CH.out _).mono ?_
  rintro e w13 ⟨rfl, b⟩
  replace HC := Lib.hid (HC.out.next b)
  replace HLK := Lib.hid (HLK.out.next b)
  clear b
  clear q0 q1 q2 q3 q4 q5 q6 q7 q8 q9
  have q0 := HC.out.get ⟨gx, 0, none⟩ (.int .i64 x) (by simp)
  have q1 := HC.out.get ⟨gx, 1, none⟩ (.int .i64 v) (by simp)
  have q2 := HC.out.get ⟨gx, 2, none⟩ (.int .i64 c) (by simp)
  have q3 := HC.out.get ⟨gx, 3, none⟩ (.int .i64 z) (by simp)
  have q4 := HC.out.get ⟨gs, 0, none⟩ (.int .i64 x) (by simp)
  have q5 := HC.out.get ⟨gs, 1, none⟩ (.int .i64 y) (by simp)
  have q6 := HC.out.get ⟨gk, 0, none⟩ (.slice pk NC ck) (by simp)
  have q7 := HC.out.get ⟨gk, 1, none⟩ (.slice pq NL cq) (by simp)
  have q8 := HC.out.get ⟨w.heap.size + 1, 0, none⟩ (.int .i64 ra) (by simp)
  have q9 := HC.out.get ⟨w.heap.size + 1, 1, none⟩ (.int .i64 rb) (by simp)
  go_wp2_with fail
  refine (VA.out _ pk pq ck cq HC.out.b HLK.out.y).mono ?_
  rintro e w14 ⟨rfl, b⟩
  replace HC := Lib.hid (HC.out.next b)
  replace HLK := Lib.hid (HLK.out.next b)
  clear b
  go_wp2_with fail
  refine (ME.out _).mono ?_
  rintro e w15 ⟨rfl, b⟩
  replace HC := Lib.hid (HC.out.next b)
  replace HLK := Lib.hid (HLK.out.next b)
  clear b
  go_wp2_with fail
  refine (MB.out _).mono ?_
  rintro e w16 ⟨rfl, b⟩
  replace HC := Lib.hid (HC.out.next b)
  replace HLK := Lib.hid (HLK.out.next b)
  clear b
  go_wp2
  go_ret
  exact ⟨rfl, HC.out.b⟩
end Go.Proofs.YtbfplapjjeeceaaGreatDoor.B9
namespace Go.Proofs.YtbfplapjjeeceaaGreatDoor.B9
open Go.RowKit GM SH G4 E6 D7P
open W8 hiding i64 jn pX pY
set_option maxRecDepth 100000 in
theorem rounds_walk (w : World) (wv cv : Value) (lw lc : List Int) (ra rb n : Int) (hw : BL w wv lw) (hc : D7.AL w cv lc) (hra : i64 ra) (hrb : i64 rb) (hn : 0 ≤ n ∧ n ≤ 255) (hT : TS w) :
    Calls Tryz.prog 9 #[.agg #[wv, cv], .agg #[.int .i64 ra, .int .i64 rb], .int .u8 n] w fun e w' => e = .returned (.bool true) ∧ Below w.heap.size w w' := by
  obtain ⟨nn, rfl⟩ : ∃ m : Nat, n = (m : Int) := ⟨n.toNat, by omega⟩
  have MA := fun W (k : Below w.heap.size w W) => Make_q w W wv cv lw lc hw hc k
  obtain ⟨pw, cw, rfl, _⟩ := id hw
  obtain ⟨pc, nc, rfl, _⟩ := al_form hc
  have hM := M_rg lw
  have hlt := Nat.mod_lt nn (show 0 < many (LP lw) by omega)
  have hxy := shs_get (cfs lw lc) (many (LP lw)) (nn % many (LP lw)) hlt
  obtain ⟨x, hx⟩ : ∃ x, ((nn % many (LP lw) : Nat) : Int) + 1 = x := ⟨_, rfl⟩
  rw [hx] at hxy
  have hxr : 1 ≤ x ∧ x ≤ ((many (LP lw) : Nat) : Int) := by omega
  have hxi : i64 x := ⟨by omega, by omega⟩
  have hav := av_poll lw lc x (by omega)
  have hpt := evl_pt (cfs lw lc) ra x ⟨hxr.1, by omega⟩
  have hac := acc_pt lw lc ra x hxr
  have hpi := pt_i64 (cfs lw lc) ra x hxi
  have hyr := D7.vl_rng (cfs lw lc) x
  have hyi := vl_ok (cfs lw lc) x
  unfold pt at hpt hac hpi
  obtain ⟨y, hy⟩ : ∃ y, D7.vl (cfs lw lc) x = y := ⟨_, rfl⟩
  rw [hy] at hxy hav hpt hac hpi hyr hyi
  have hCr := prC_rng y 4 (bs ra)
  have hZr := prZ_rng y 4 (bs ra)
  have hVm : mem (pp (bs ra) y) = true := pp_mem (bs_mem ra) y hyr.1
  obtain ⟨v, hv⟩ : ∃ v, pp (bs ra) y = v := ⟨_, rfl⟩
  obtain ⟨c, hcc⟩ : ∃ c, prC y 4 (bs ra) = c := ⟨_, rfl⟩
  obtain ⟨z, hz⟩ : ∃ z, prZ y 4 (bs ra) = z := ⟨_, rfl⟩
  rw [hv, hcc, hz] at hpt hac hpi
  rw [hv] at hVm
  rw [hcc] at hCr
  rw [hz] at hZr
  have hpubm : mem (pp 4 y) = true := pp_mem mem_4 y hyr.1
  have hpubi := pp_i64 4 y
  obtain ⟨pub, hpub⟩ : ∃ p, pp 4 y = p := ⟨_, rfl⟩
  rw [hpub] at hav hpubm hpubi
  obtain ⟨d, hd⟩ : ∃ d, 1152921504606845789 - c = d := ⟨_, rfl⟩
  have hdw : IntKind.i64.wrap d = d := by rw [← hd]; exact wrap_sub c hCr
  have hdi := sub_i64 c d hCr hd
  obtain ⟨u1, h1⟩ : ∃ u, pp 4 z = u := ⟨_, rfl⟩
  obtain ⟨u2, h2⟩ : ∃ u, pp pub d = u := ⟨_, rfl⟩
  obtain ⟨u3, h3⟩ : ∃ u, pp (bs rb) z = u := ⟨_, rfl⟩
  obtain ⟨u4, h4⟩ : ∃ u, pp v d = u := ⟨_, rfl⟩
  have i1 : i64 u1 := by rw [← h1]; exact pp_i64 _ _
  have i2 : i64 u2 := by rw [← h2]; exact pp_i64 _ _
  have i3 : i64 u3 := by rw [← h3]; exact pp_i64 _ _
  have i4 : i64 u4 := by rw [← h4]; exact pp_i64 _ _
  have s1 := sd_is 4 pub c z d u1 u2 hd h1 h2
  have s2 := sd_is (bs rb) v c z d u3 u4 hd h3 h4
  have hsd1 := sd_i64 4 pub c z
  have hsd2 := sd_i64 (bs rb) v c z
  have hvf := vf_is (g := 4) (a := pub) (h := bs rb) (b := v) hCr hZr mem_4 hpubm (bs_mem rb) hVm
  obtain ⟨rr, hrr⟩ : ∃ r, sd 4 pub c z = r := ⟨_, rfl⟩
  obtain ⟨tt, htt⟩ : ∃ r, sd (bs rb) v c z = r := ⟨_, rfl⟩
  rw [hrr] at s1 hsd1 hvf
  rw [htt] at s2 hsd2 hvf
  obtain ⟨chv, hch⟩ : ∃ r, ch [4, pub, bs rb, v, rr, tt] = r := ⟨_, rfl⟩
  rw [hch] at hvf
  have hpi' := hpi
  obtain ⟨_, hvi, hci, hzi⟩ := hpi'
  dsimp only at hvi hci hzi
  have hacb : acc (cms lw lc) (many (LP lw) : Nat) rb (x, v, c, z) = (chv == c) := by
    unfold acc
    dsimp only
    rw [decide_eq_true hxr.1, decide_eq_true hxr.2, hav, hvf]; rfl
  refine rounds_core w pw pc lw.length cw lc.length nc ra rb nn (by omega) (cfs lw lc) (cms lw lc) (LP lw) (many (LP lw)) (by omega) hM.2 (nd lw) (cfs_len lw lc) (shs (cfs lw lc) (many (LP lw))) (shs_len _ _)
    x y v c z (bs ra) (bs rb) pub d u1 u2 rr u3 u4 tt chv (acc (cms lw lc) (many (LP lw) : Nat) rb (x, v, c, z)) (chv == c) hxy (fun e => by rw [acc_same e.symm]; exact hac) (fun _ => hacb) rfl hd hdw
    (Lib.hid fun W k => sanity_any W (hT.below k)) (Lib.hid MA) (Lib.hid fun W p q pc ck cq cc hy hs => Shares_any W p q _ ck _ cq _ _ hy hM.2 _ _ hs)
    (Lib.hid fun W k => Base_any W ra _ rfl hra (hT.below k)) (Lib.hid fun W k => Base_any W rb _ rfl hrb (hT.below k))
    (Lib.hid fun W k => Eval_any W x y ra (x, v, c, z) (by rw [← hy, ← hpt, hy]) hxi hyi hra (hT.below k))
    (Lib.hid fun W p q ck cq k hk => Verify9 W p q _ ck _ cq rb (cms lw lc) (LP lw) (x, v, c, z) _ (ver_yes (rgt_poll lw lc) rb _) hk hrb hpi (hT.below k))
    (Lib.hid fun W p q ck cq k hk => Verify9 W p q _ ck _ cq ra (cms lw lc) (LP lw) (x, v, c, z) true ((ver_yes (rgt_poll lw lc) ra _).trans hac) hk hra hpi (hT.below k))
    (Lib.hid fun W => member9 W _ (bs_mem ra) (bs_i64 ra)) (Lib.hid fun W => member9 W _ (bs_mem rb) (bs_i64 rb))
    (Lib.hid fun W p ck hs => by have := D7.refAt_any W _ (cms lw lc) x (slD hs) hs.r hxi hs.n; rw [hav] at this; exact this)
    (Lib.hid fun W => pow9 W 4 z u1 h1 ⟨by decide, by decide⟩ hzi) (Lib.hid fun W => pow9 W pub d u2 h2 hpubi hdi) (Lib.hid fun W => mul9 W u1 u2 rr s1 i1 i2)
    (Lib.hid fun W => pow9 W (bs rb) z u3 h3 (bs_i64 rb) hzi) (Lib.hid fun W => pow9 W v d u4 h4 hvi hdi) (Lib.hid fun W => mul9 W u3 u4 tt s2 i3 i4)
    (Lib.hid fun W => chal_six W 4 pub (bs rb) v rr tt chv hch ⟨by decide, by decide⟩ hpubi (bs_i64 rb) hvi hsd1 hsd2)
end Go.Proofs.YtbfplapjjeeceaaGreatDoor.B9
