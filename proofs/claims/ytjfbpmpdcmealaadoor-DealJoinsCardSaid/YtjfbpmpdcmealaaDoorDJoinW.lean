/-
  The walk of the law DealJoins.
-/
import Derived.Test.YtjfbpmpdcmealaaDoorDJoinM
import Derived.Test.YtjfbpmpdcmealaaDoorDSanW
import Derived.Test.YtjfbpmpdcmealaaDoorDRefA
import Derived.Test.YtjfbpmpdcmealaaDoorDPlan
import Derived.Test.YtjfbpmpdcmealaaDoorDArgs
namespace Go.Proofs.YtjfbpmpdcmealaaDoor.D7
open Go.RowKit GM SH G4 E6 D7P
theorem infoSh : (Tryd.prog.info? 34).map (fun i => (i.zero, i.size, i.bytes)) = some (some (.agg #[.int .i64 0, .int .i64 0]), 2, 16) := by kernel_rfl
theorem own2 {w : World} {base : Nat} {e : TypeId} {v : Value} {n : Nat} {xs : List Value} (h : w.ownsRow base e 2 v n xs) (hn : 0 < n) : ∃ g cap, v = .slice (some ⟨g, 0, none⟩) n cap ∧ ∀ j x, xs[j]? = some x → w.cell? ⟨g, j, none⟩ = some x := by
  have hl := h.1
  rcases h.2 with ⟨rfl, rfl⟩ | ⟨g, cap, cur, rfl, h2, h3, h4, h5, h6, h7⟩
  · omega
  · refine ⟨g, cap, rfl, fun j x hj => ?_⟩
    rw [cell_of_row w g j _ _ _ h3, ← Array.getElem?_toList]
    rw [← h7] at hj
    have hlt := (List.getElem?_eq_some_iff.1 hj).1
    rw [List.getElem?_take_of_lt (by rw [List.length_take] at hlt; omega)] at hj
    exact hj
/-- the shares' cells -/
def shs (f M : Nat) (N : List Int) (k : Nat) : List Value := (List.range k).flatMap fun j => [.int .i64 (jx f M j), .int .i64 (vl N (jx f M j))]
theorem shs_succ (f M : Nat) (N : List Int) (k : Nat) : shs f M N k ++ [.int .i64 (jx f M k), .int .i64 (vl N (jx f M k))] = shs f M N (k+1) := by
  unfold shs; rw [List.range_succ, List.flatMap_append]; simp
theorem shs_len (f M : Nat) (N : List Int) (k : Nat) : (shs f M N k).length = k * 2 := by
  induction k with
  | zero => rfl
  | succ k ih => rw [← shs_succ, List.length_append, ih]; simp; omega
theorem shs_get (f M : Nat) (N : List Int) (n i : Nat) (h : i < n) : (shs f M N n)[i * 2]? = some (.int .i64 (jx f M i)) ∧ (shs f M N n)[i * 2 + 1]? = some (.int .i64 (vl N (jx f M i))) := by
  induction n with
  | zero => omega
  | succ n ih =>
    rw [← shs_succ]
    by_cases e : i = n
    · subst e
      rw [List.getElem?_append_right (by rw [shs_len]; omega), List.getElem?_append_right (by rw [shs_len]; omega), shs_len]
      simp
    · have := ih (by omega)
      rw [List.getElem?_append_left (by rw [shs_len]; omega), List.getElem?_append_left (by rw [shs_len]; omega)]
      exact this
theorem news_two (W : World) (u v : Value) (t : TypeId) : ∀ j x, [u, v][j]? = some x → (W.alloc (.cells #[u, v] t)).cell? ((⟨W.heap.size, 0, none⟩ : Addr).add j) = some x := fun j x hx =>
  World.news_of_block (cs := #[u, v]) (t := t) (fr := (0, 0)) (heap_alloc_new W _) j x (by simpa using hx)
theorem jx_i (f M k : Nat) (hM : 0 < M) (h : M ≤ 60) : i64 (jx f M k) := by have := jx_rng f M k hM; exact ⟨by omega, by omega⟩
theorem fz_rng (x : Int) : ∀ (y : Int) (l : List Int), 0 ≤ y ∧ y < 1152921504606845789 → 0 ≤ fz x y l ∧ fz x y l < 1152921504606845789
  | _, [], h => h
  | y, t :: l, h => fz_rng x (if t = x then y else gm y (gm t (iv (t - x)) 1152921504606845789) 1152921504606845789) l (by
    split
    · exact h
    · exact mQr _ _)
structure BB (u W : World) : Prop where
  b : Below u.heap.size u W
theorem BB.next {u W V : World} (h : BB u W) (k : Below W.heap.size W V) : BB u V := ⟨h.b.trans (k.mono h.b.size)⟩
theorem BB.drew {u W : World} (h : BB u W) : BB u W.drew := ⟨h.b.drew⟩
theorem CK.below {w u v : World} {L : List (Addr × Value)} (h : CK w L [] u) (k : Below u.heap.size u v) : CK w L [] v := h.next k
set_option maxRecDepth 100000 in
set_option maxHeartbeats 16000000 in
theorem join_core (w : World) (sb so n c m e fr : Nat) (q : Option Addr) (sd : ByteArray) (pt n0 : Int) (K N C : List Int) (B : List ByteArray)
    (hfr : fr < 256) (hM : K.length ≤ 60) (hNK : N.length ≤ K.length) (hN1 : 1 ≤ N.length) (hKn : K.length ≤ n) (hn9 : (n : Int) ≤ 9223372036854775807) (hCN : C.length = N.length) (hT : TS w) (hr0 : 0 ≤ n0 ∧ n0 < 1152921504606845789)
    (hN0 : N[0]? = some n0) (hC0 : C[0]? = some (pp 4 n0)) (hsum : sz (fun x => fz x (vl N x) (jxs fr K.length N.length)) (jxs fr K.length N.length) = n0)
    (S0 : Hid (∀ W, TS W → Calls Tryd.prog 5 #[] W fun e w' => e = .returned (.bool true) ∧ Below W.heap.size W w'))
    (K1 : Hid (∀ W, Below w.heap.size w W → Calls Tryd.prog 6 #[.agg #[.slice (some ⟨sb, so, none⟩) n c, .slice q m e, .string sd]] W (OwnQ W K)))
    (N1 : Hid (∀ W, Below w.heap.size w W → Calls Tryd.prog 7 #[.agg #[.slice (some ⟨sb, so, none⟩) n c, .slice q m e, .string sd]] W (OwnQ W N)))
    (D1 : Hid (∀ W v1 v2, Below w.heap.size w W → SL W v1 K → SL W v2 N → Calls Tryd.prog 8 #[v2, v1, .string sd] W (DealtQ W C pt B)))
    (Og : Hid (∀ j, j < K.length → ∃ sec, w.cell? ⟨sb, so + j, none⟩ = some (.int .i64 sec) ∧ ∀ W cp cc bp bc, Below w.heap.size w W → SL W (.slice cp C.length cc) C → ZL W (.slice bp B.length bc) B → Calls Tryd.prog 9 #[.int .i64 sec, .agg #[.slice cp C.length cc, .int .i64 pt, .slice bp B.length bc], .int .i64 (j : Int)] W fun e w' => e = .returned (.tuple #[.agg #[.int .i64 ((j : Int) + 1), .int .i64 (vl N ((j : Int) + 1))], .bool true]) ∧ Below W.heap.size W w'))
    (I1 : Hid (∀ a b, a < N.length → b < N.length → a ≠ b → ∀ W, Calls Tryd.prog 10 #[.int .i64 (jx fr K.length a - jx fr K.length b), .int .i64 1152921504606845789] W fun e w' => e = .returned (.tuple #[.int .i64 (iv (jx fr K.length a - jx fr K.length b)), .bool true]) ∧ w' = W))
    (M1 : Hid (∀ W a b, i64 a → i64 b → Calls Tryd.prog 11 #[.int .i64 a, .int .i64 b, .int .i64 1152921504606845789] W fun e w' => e = .returned (.int .i64 (gm a b 1152921504606845789)) ∧ w' = W))
    (A1 : Hid (∀ W a b, i64 a → i64 b → Calls Tryd.prog 12 #[.int .i64 a, .int .i64 b, .int .i64 1152921504606845789] W fun e w' => e = .returned (.int .i64 (ga a b 1152921504606845789)) ∧ w' = W))
    (P1 : Hid (∀ W, Calls Tryd.prog 13 #[.int .i64 4, .int .i64 n0, .int .i64 2305843009213691579] W fun e w' => e = .returned (.int .i64 (pp 4 n0)) ∧ Below W.heap.size W w')) :
    Calls Tryd.prog 3 #[.agg #[.slice (some ⟨sb, so, none⟩) n c, .slice q m e, .string sd], .int .u8 (fr : Int)] w fun e w' => e = .returned (.bool true) ∧ Below w.heap.size w w' := by
  obtain ⟨i0, hi, hz0, hz1, hz2⟩ := info_parts infoSh
  obtain ⟨W, hW⟩ : ∃ W, w.alloc (.cells #[.slice (some ⟨sb, so, none⟩) n c, .slice q m e, .string sd] 24) = W := ⟨_, rfl⟩
  have K0 : CK w [(⟨w.heap.size, 0, none⟩, .slice (some ⟨sb, so, none⟩) n c), (⟨w.heap.size, 1, none⟩, .slice q m e), (⟨w.heap.size, 2, none⟩, .string sd)] [] W := by
    have a1 := (CK.start w).cells #[.slice (some ⟨sb, so, none⟩) n c, .slice q m e, .string sd] 24 _ rfl
    rw [hW] at a1
    exact a1.sub (by simp) (by simp)
  have HK := Lib.hid K0; clear K0
  have HT0 := Lib.hid (And.intro hT (And.intro hN0 (And.intro hC0 (And.intro hsum (And.intro hr0 hCN))))); clear hT hN0 hC0 hsum hr0
  have hCN2 : ((C.length : Int) == (N.length : Int)) = true := by rw [hCN]; simp
  have HCN := Lib.hid hCN2; clear hCN2 hCN
  go_enter Tryd.func3, Tryd.ntmps3
  go_upto_region 1 with fail
  clear hW
  go_wp2_with fail
  refine (S0.out _ (HT0.out.1.below HK.out.b)).mono ?_
  rintro e w1 ⟨rfl, b⟩
  have H1 := Lib.hid (HK.out.next b); clear b HK S0
  go_upto_region 2 with fail
  refine wp_region_held_drew (S := CK w [(⟨w.heap.size, 0, none⟩, .slice (some ⟨sb, so, none⟩) n c), (⟨w.heap.size, 1, none⟩, .slice q m e), (⟨w.heap.size, 2, none⟩, .string sd)] []) (by kernel_rfl) H1.out.drew (fun hS => ?_)
  clear H1
  refine wpAnyH_take (i := 0) (oi := { dst := some 24, op := Op.load 24 (Operand.tmp 2), type := 24, pos := "more.go:62", after := #[], guard := none }) (v := .agg #[.slice (some ⟨sb, so, none⟩) n c, .slice q m e, .string sd]) rfl (by kernel_rfl) (by kernel_rfl) (by kernel_rfl) (fun _ _ _ h => h) (Or.inl ⟨by rfl, ?yja0⟩) hS ?rja0
  case yja0 => (intro w' hS; have cf := (show w'.cell? ⟨w.heap.size, 0, none⟩ = some (.slice (some ⟨sb, so, none⟩) n c) ∧ w'.cell? ⟨w.heap.size, 1, none⟩ = some (.slice q m e) ∧ w'.cell? ⟨w.heap.size, 2, none⟩ = some (.string sd) from ⟨hS.get _ _ (by simp), hS.get _ _ (by simp), hS.get _ _ (by simp)⟩); go_simp; try with_reducible rfl)
  refine wpAnyH_take (i := 2) (oi := { dst := some 26, op := Op.load 24 (Operand.tmp 2), type := 24, pos := "more.go:62", after := #[], guard := none }) (v := .agg #[.slice (some ⟨sb, so, none⟩) n c, .slice q m e, .string sd]) rfl (by kernel_rfl) (by kernel_rfl) (by kernel_rfl) (fun _ _ _ h => h) (Or.inl ⟨by rfl, ?yja2⟩) hS ?rja2
  case yja2 => (intro w' hS; have cf := (show w'.cell? ⟨w.heap.size, 0, none⟩ = some (.slice (some ⟨sb, so, none⟩) n c) ∧ w'.cell? ⟨w.heap.size, 1, none⟩ = some (.slice q m e) ∧ w'.cell? ⟨w.heap.size, 2, none⟩ = some (.string sd) from ⟨hS.get _ _ (by simp), hS.get _ _ (by simp), hS.get _ _ (by simp)⟩); go_simp; try with_reducible rfl)
  go_simp
  refine wpAnyH_ready (rs := [1]) (by kernel_rfl) (by simp) ?_
  refine AllReadyH.cons (o := { dst := some 25, op := Op.call { callee := Callee.value (Operand.func 6), args := #[Operand.tmp 24], argTypes := #[24] }, type := 22, pos := "more.go:62", after := #[{ on := 0, ground := Ground.data }], guard := none }) rfl (fun K hK => ?_) AllReadyH.nil
  go_simp
  go_at_call 6
  refine (K1.out _ hS.b).mono ?_
  rintro e w' ⟨v1, rfl, o1, b⟩
  have o1 := own_base o1 hS.b.size
  have hS2 := hS.next b
  clear b hS
  try go_simp
  refine hK.out _ _ hS2 (fun hS => ?_)
  clear hK K hS2
  refine wpAnyH_ready (rs := [3]) (by kernel_rfl) (by simp) ?_
  refine AllReadyH.cons (o := { dst := some 27, op := Op.call { callee := Callee.value (Operand.func 7), args := #[Operand.tmp 26], argTypes := #[24] }, type := 22, pos := "more.go:62", after := #[{ on := 2, ground := Ground.data }, { on := 1, ground := Ground.chain }], guard := none }) rfl (fun K hK => ?_) AllReadyH.nil
  go_simp
  go_at_call 7
  refine (N1.out _ hS.b).mono ?_
  rintro e w' ⟨v2, rfl, o2, b⟩
  have o2 := own_base o2 hS.b.size; have o1 := own_below o1 b
  have hS2 := hS.next b
  clear b hS
  try go_simp
  refine hK.out _ _ hS2 (fun hS => ?_)
  clear hK K hS2
  refine wpAnyH_take (i := 4) (oi := { dst := some 6, op := Op.assign (Operand.tmp 25), type := 22, pos := "more.go:62", after := #[{ on := 1, ground := Ground.data }, { on := 3, ground := Ground.chain }, { on := 0, ground := Ground.phase }, { on := 1, ground := Ground.phase }, { on := 2, ground := Ground.textOnly Departure.lateStores }, { on := 3, ground := Ground.textOnly Departure.lateStoresUnsure }], guard := none }) (v := ?vja4) rfl (by kernel_rfl) (by kernel_rfl) (by kernel_rfl) (fun _ _ _ h => h) (Or.inl ⟨by rfl, ?yja4⟩) hS ?rja4
  case yja4 => (intro w hS; go_simp; try with_reducible rfl)
  go_simp
  refine wpAnyH_take (i := 5) (oi := { dst := some 7, op := Op.assign (Operand.tmp 27), type := 22, pos := "more.go:62", after := #[{ on := 3, ground := Ground.data }, { on := 4, ground := Ground.chain }, { on := 0, ground := Ground.phase }, { on := 1, ground := Ground.phase }, { on := 2, ground := Ground.phase }, { on := 3, ground := Ground.phase }, { on := 4, ground := Ground.phase }], guard := none }) (v := ?vja5) rfl (by kernel_rfl) (by kernel_rfl) (by kernel_rfl) (fun _ _ _ h => h) (Or.inl ⟨by rfl, ?yja5⟩) hS ?rja5
  case yja5 => (intro w hS; go_simp; try with_reducible rfl)
  refine wpAnyH_done (by kernel_rfl) ?_ _
  have H2 := Lib.hid hS; clear hS
  have O1 := Lib.hid o1; clear o1
  have O2 := Lib.hid o2; clear o2
  try dsimp only [Act.put]
  have p2 := H2.out.get ⟨w.heap.size, 2, none⟩ (.string sd) (by simp)
  go_wp2_with fail
  refine (D1.out _ _ _ H2.out.b (own_VL O1.out) (own_VL O2.out)).mono ?_
  rintro e w3 ⟨cv, bv, rfl, oc, ob, _, b⟩
  obtain ⟨kp, kc, rfl⟩ := own_nil _ O1.out
  obtain ⟨np, nc, rfl⟩ := own_nil _ O2.out
  obtain ⟨cp, cc, rfl⟩ := own_nil _ oc
  obtain ⟨bp, bc, rfl⟩ := own_nil _ ob
  obtain ⟨np', nc', e1, hnn⟩ := (own_VL O2.out).below b
  injection e1 with e2 e3 e4
  subst e2 e4
  obtain ⟨nb, no, rfl, hn0⟩ := hnn 0 (.int .i64 n0) (by rw [List.getElem?_map, HT0.out.2.1]; rfl)
  clear e3 hnn
  obtain ⟨cp', cc', e1, hcc⟩ := own_VL oc
  injection e1 with e2 e3 e4
  subst e2 e4
  obtain ⟨cb, co, rfl, hc0⟩ := hcc 0 (.int .i64 (pp 4 n0)) (by rw [List.getElem?_map, HT0.out.2.2.1]; rfl)
  clear e3 hcc
  have H3 := Lib.hid (And.intro (H2.out.next b) (And.intro (own_VL oc) (own_VL ob))); clear b oc ob H2 O1 O2 p2 D1
  go_upto_region 6 with fail
  have b4 := (Below.refl w3.heap.size w3).alloc (Nat.le_refl _) (.cells #[.slice (some ⟨cb, co, none⟩) C.length cc, .int .i64 pt, .slice bp B.length bc] 29)
  have H4 := H3.out.1.cells #[.slice (some ⟨cb, co, none⟩) C.length cc, .int .i64 pt, .slice bp B.length bc] 29 _ rfl
  have sC := H3.out.2.1.below b4
  have sB := H3.out.2.2.below b4
  replace hn0 := (b4.cell (p := ⟨nb, no + 0, none⟩) (World.block_lt_of_cell? _ _ hn0)).trans hn0
  replace hc0 := (b4.cell (p := ⟨cb, co + 0, none⟩) (World.block_lt_of_cell? _ _ hc0)).trans hc0
  obtain ⟨D, hD⟩ : ∃ D, w3.heap.size = D := ⟨_, rfl⟩
  obtain ⟨W6, hW6⟩ : ∃ V, w3.alloc (.cells #[.slice (some ⟨cb, co, none⟩) C.length cc, .int .i64 pt, .slice bp B.length bc] 29) = V := ⟨_, rfl⟩
  rw [hW6] at H4 hn0 hc0 sC sB ⊢
  rw [hD] at H4 ⊢
  obtain ⟨cp, hcp⟩ : ∃ cp : Option Addr, some (⟨cb, co, none⟩ : Addr) = cp := ⟨_, rfl⟩
  rw [hcp] at H4 sC ⊢
  replace H4 := Lib.hid (H4.sub (M := [(⟨D, 0, none⟩, .slice cp C.length cc), (⟨D, 1, none⟩, .int .i64 pt), (⟨D, 2, none⟩, .slice bp B.length bc), (⟨w.heap.size, 0, none⟩, .slice (some ⟨sb, so, none⟩) n c), (⟨w.heap.size, 1, none⟩, .slice q m e), (⟨w.heap.size, 2, none⟩, .string sd)]) (Y := []) (by simp) (by simp))
  have H6 := H4; clear H4
  have hd0 := H6.out.get ⟨D, 0, none⟩ (.slice cp C.length cc) (by simp)
  have HZ := Lib.hid (And.intro hn0 (And.intro hc0 (And.intro hd0 (And.intro hcp (And.intro sC sB))))); clear hn0 hc0 hd0 hcp sC sB b4 hD hW6 H3
  go_wp2_with fail
  go_loopw [10, 41] (fun l i wr => ∃ (k : Nat) (lv : Value), k ≤ N.length ∧ l = lv ∧ i = .int .i64 (k : Int) ∧ Hid (Below W6.heap.size W6 wr ∧ wr.ownsRow W6.heap.size 34 2 lv k (shs fr K.length N k))) (fun _ i _ => N.length - (match i with | .int _ i => i.toNat | _ => 0))
  case atStart => exact ⟨0, _, Nat.zero_le _, rfl, rfl, Lib.hid ⟨Below.refl _ _, World.ownsRow_nil _ _ _ _⟩⟩
  case round =>
    obtain ⟨k, lv, hk, rfl, rfl, HR⟩ := hrel
    by_cases hlt : k < N.length
    · obtain ⟨nn, hnn⟩ : ∃ nn, (fr + k) % K.length = nn := ⟨_, rfl⟩
      have hnK : nn < K.length := by rw [← hnn]; exact Nat.mod_lt _ (by omega)
      have hnS : nn < n := by omega
      have hmod : Int.tmod ((fr : Int) + (k : Int)) (K.length : Int) = (nn : Int) := by
        rw [Int.tmod_eq_emod_of_nonneg (by omega), ← hnn, Int.natCast_emod, Int.natCast_add]
      have hK0 : ((K.length : Int) == 0) = false := beq_eq_false_iff_ne.2 (by omega)
      have hK1 : (K.length : Int) ≠ 0 := by omega
      obtain ⟨sec, hsec, hop⟩ := Og.out nn hnK
      have hsec6 := (H6.out.b.cell (p := ⟨sb, so + nn, none⟩) (World.block_lt_of_cell? _ _ hsec)).trans hsec
      obtain ⟨xk, hxk⟩ : ∃ x, (nn : Int) + 1 = x := ⟨_, rfl⟩
      obtain ⟨yk, hyk⟩ : ∃ y, vl N xk = y := ⟨_, rfl⟩
      have hjx : jx fr K.length k = xk := by unfold jx; rw [hnn]; exact hxk
      have HO : Hid (∀ W, Below W6.heap.size W6 W → Calls Tryd.prog 9 #[.int .i64 sec, .agg #[.slice cp C.length cc, .int .i64 pt, .slice bp B.length bc], .int .i64 (nn : Int)] W fun e w' => e = .returned (.tuple #[.agg #[.int .i64 xk, .int .i64 yk], .bool true]) ∧ Below W.heap.size W w') := Lib.hid fun W b => by
        rw [← hyk, ← hxk]
        exact hop W cp cc bp bc (H6.out.b.trans (b.mono H6.out.b.size)) (HZ.out.2.2.2.2.1.below b) (HZ.out.2.2.2.2.2.below b)
      have hsnoc : Hid (shs fr K.length N k ++ [.int .i64 xk, .int .i64 yk] = shs fr K.length N (k+1)) := Lib.hid (by rw [← shs_succ, hjx, hyk])
      have hA1 := Lib.hid (And.intro (show k + 1 ≤ maxLen by unfold maxLen; omega) (show (k + 1) * 16 ≤ 140737488355328 by omega))
      replace hsec := hsec6
      clear hop hsec6 hxk hyk hjx hnn
      go_upto_region 11 with fail
      clear hmod hK0 hK1
      have hl0 := own_below HR.out.2 (Below.refl wr.heap.size wr).drew
      refine wp_region_held_drew (S := BB W6) (by kernel_rfl) (BB.mk HR.out.1.drew) (fun hS => ?_)
      refine wpAnyH_take (i := 0) (oi := { dst := some 52, op := Op.fieldAddr 24 (Operand.tmp 2) 0, type := 0, pos := "more.go:70", after := #[], guard := none }) (v := ?vjb0) rfl (by kernel_rfl) (by kernel_rfl) (by kernel_rfl) (fun _ _ _ h => h) (Or.inl ⟨by rfl, ?yjb0⟩) hS ?rjb0
      case yjb0 => (intro w hS; go_simp; try with_reducible rfl)
      refine wpAnyH_take (i := 2) (oi := { dst := some 54, op := Op.move (Operand.tmp 12), type := 3, pos := "more.go:70", after := #[], guard := none }) (v := ?vjb2) rfl (by kernel_rfl) (by kernel_rfl) (by kernel_rfl) (fun _ _ _ h => h) (Or.inl ⟨by rfl, ?yjb2⟩) hS ?rjb2
      case yjb2 => (intro w hS; go_simp; try with_reducible rfl)
      refine wpAnyH_take (i := 5) (oi := { dst := some 57, op := Op.load 29 (Operand.tmp 8), type := 29, pos := "more.go:70", after := #[], guard := none }) (v := .agg #[.slice cp C.length cc, .int .i64 pt, .slice bp B.length bc]) rfl (by kernel_rfl) (by kernel_rfl) (by kernel_rfl) (fun _ _ _ h => h) (Or.inl ⟨by rfl, ?yjb5⟩) hS ?rjb5
      case yjb5 => (intro w' hS; have cf := (show w'.cell? ⟨D, 0, none⟩ = some (.slice cp C.length cc) ∧ w'.cell? ⟨D, 1, none⟩ = some (.int .i64 pt) ∧ w'.cell? ⟨D, 2, none⟩ = some (.slice bp B.length bc) from ⟨(H6.out.next hS.b).get ⟨D, 0, none⟩ (.slice cp C.length cc) (by simp), (H6.out.next hS.b).get ⟨D, 1, none⟩ (.int .i64 pt) (by simp), (H6.out.next hS.b).get ⟨D, 2, none⟩ (.slice bp B.length bc) (by simp)⟩); go_simp; try with_reducible rfl)
      refine wpAnyH_take (i := 6) (oi := { dst := some 58, op := Op.move (Operand.tmp 12), type := 3, pos := "more.go:70", after := #[], guard := none }) (v := ?vjb6) rfl (by kernel_rfl) (by kernel_rfl) (by kernel_rfl) (fun _ _ _ h => h) (Or.inl ⟨by rfl, ?yjb6⟩) hS ?rjb6
      case yjb6 => (intro w hS; go_simp; try with_reducible rfl)
      go_simp
      refine wpAnyH_take (i := 1) (oi := { dst := some 53, op := Op.load 22 (Operand.tmp 52), type := 22, pos := "more.go:70", after := #[{ on := 0, ground := Ground.data }], guard := none }) (v := .slice (some ⟨sb, so, none⟩) n c) rfl (by kernel_rfl) (by kernel_rfl) (by kernel_rfl) (fun _ _ _ h => h) (Or.inl ⟨by rfl, ?yjb1⟩) hS ?rjb1
      case yjb1 => (intro w' hS; have cf := (H6.out.next hS.b).get ⟨w.heap.size, 0, none⟩ (.slice (some ⟨sb, so, none⟩) n c) (by simp); go_simp; try with_reducible rfl)
      go_simp
      refine wpAnyH_take (i := 3) (oi := { dst := some 55, op := Op.indexAddr 22 (Operand.tmp 53) (Operand.tmp 54), type := 0, pos := "more.go:70", after := #[{ on := 1, ground := Ground.data }, { on := 2, ground := Ground.data }], guard := none }) (v := ?vjb3) rfl (by kernel_rfl) (by kernel_rfl) (by kernel_rfl) (fun _ _ _ h => h) (Or.inl ⟨by rfl, ?yjb3⟩) hS ?rjb3
      case yjb3 => (intro w hS; go_simp; try with_reducible rfl)
      go_simp
      refine wpAnyH_take (i := 4) (oi := { dst := some 56, op := Op.load 3 (Operand.tmp 55), type := 3, pos := "more.go:70", after := #[{ on := 3, ground := Ground.data }], guard := none }) (v := .int .i64 sec) rfl (by kernel_rfl) (by kernel_rfl) (by kernel_rfl) (fun _ _ _ h => h) (Or.inl ⟨by rfl, ?yjb4⟩) hS ?rjb4
      case yjb4 => (intro w' hS; have cf := (hS.b.cell (p := ⟨sb, so + nn, none⟩) (World.block_lt_of_cell? _ _ hsec)).trans hsec; go_simp; try with_reducible rfl)
      go_simp
      refine wpAnyH_ready (rs := [7, 11]) (by kernel_rfl) (by simp) ?_
      refine AllReadyH.cons (o := { dst := some 59, op := Op.call { callee := Callee.value (Operand.func 9), args := #[Operand.tmp 56, Operand.tmp 57, Operand.tmp 58], argTypes := #[3, 29, 3] }, type := 35, pos := "more.go:70", after := #[{ on := 4, ground := Ground.data }, { on := 5, ground := Ground.data }, { on := 6, ground := Ground.data }], guard := none }) rfl (fun Ka hKa => ?_) (AllReadyH.cons (o := { dst := some 13, op := Op.alloc 34, type := 0, pos := "more.go:70", after := #[], guard := none }) rfl (fun Kb hKb => ?_) AllReadyH.nil)
      · skip
        go_simp
        go_at_call 9
        refine (HO.out _ hS.b).mono ?_
        rintro e w' ⟨rfl, b⟩
        have hS2 := hS.next b
        have hl0 := own_below hl0 b
        try go_simp
        clear hS
        refine hKa.out _ _ hS2 (fun hS => ?_)
        clear hKa Ka hS2 b
        refine wpAnyH_take (i := 8) (oi := { dst := some 51, op := Op.move (Operand.tmp 59), type := 35, pos := "more.go:70", after := #[{ on := 7, ground := Ground.data }], guard := none }) (v := ?vjc8) rfl (by kernel_rfl) (by kernel_rfl) (by kernel_rfl) (fun _ _ _ h => h) (Or.inl ⟨by rfl, ?yjc8⟩) hS ?rjc8
        case yjc8 => (intro w hS; go_simp; try with_reducible rfl)
        go_simp
        refine wpAnyH_take (i := 9) (oi := { dst := some 60, op := Op.extract (Operand.tmp 51) 0, type := 34, pos := "more.go:70", after := #[{ on := 8, ground := Ground.data }], guard := none }) (v := ?vjc9) rfl (by kernel_rfl) (by kernel_rfl) (by kernel_rfl) (fun _ _ _ h => h) (Or.inl ⟨by rfl, ?yjc9⟩) hS ?rjc9
        case yjc9 => (intro w hS; go_simp; try with_reducible rfl)
        refine wpAnyH_take (i := 10) (oi := { dst := some 61, op := Op.extract (Operand.tmp 51) 1, type := 4, pos := "more.go:70", after := #[{ on := 8, ground := Ground.data }, { on := 12, ground := Ground.gcOnly Departure.lateStores }], guard := none }) (v := ?vjc10) rfl (by kernel_rfl) (by kernel_rfl) (by kernel_rfl) (fun _ _ _ h => h) (Or.inl ⟨by rfl, ?yjc10⟩) hS ?rjc10
        case yjc10 => (intro w hS; go_simp; try with_reducible rfl)
        go_simp
        refine wpAnyH_ready (rs := [11]) (by kernel_rfl) (by simp) ?_
        refine AllReadyH.cons (o := { dst := some 13, op := Op.alloc 34, type := 0, pos := "more.go:70", after := #[], guard := none }) rfl (fun Kb hKb => ?_) AllReadyH.nil
        go_simp
        have hrow := heap_alloc_new w' (.cells #[.int .i64 0, .int .i64 0] 34)
        have hS2 := hS.next ((Below.refl _ w').alloc (Nat.le_refl _) (.cells #[.int .i64 0, .int .i64 0] 34))
        have hS0 := hS
        clear hS
        refine hKb.out _ _ hS2 (fun hS => ?_)
        clear hKb Kb
        refine wpAnyH_ready (rs := [12]) (by kernel_rfl) (by simp) ?_
        refine AllReadyH.cons (o := { dst := none, op := Op.store 34 (Operand.tmp 13) (Operand.tmp 60), type := 0, pos := "more.go:70", after := #[{ on := 11, ground := Ground.data }, { on := 9, ground := Ground.data }, { on := 7, ground := Ground.chain }, { on := 0, ground := Ground.phase }, { on := 1, ground := Ground.phase }, { on := 2, ground := Ground.phase }, { on := 3, ground := Ground.phase }, { on := 4, ground := Ground.phase }, { on := 5, ground := Ground.phase }, { on := 6, ground := Ground.phase }, { on := 7, ground := Ground.phase }, { on := 8, ground := Ground.phase }, { on := 9, ground := Ground.phase }, { on := 10, ground := Ground.textOnly Departure.lateStores }, { on := 11, ground := Ground.phase }], guard := none }) rfl (fun K9 hK9 => ?_) AllReadyH.nil
        rw [if_pos (by rfl)]
        refine wp_store_row 34 (.tmp 13) (.tmp 60) rfl (w'.heap.size) (#[.int .i64 xk, .int .i64 yk]) (by first | rfl | (simp [Act.eval])) (by first | rfl | (simp [Act.eval])) 34 _ hrow (infoS _ _).out (two_sz _ _ rfl) (sh_one _ _) ?_
        have hrow2 := setRow_heap _ _ _ (#[.int .i64 xk, .int .i64 yk]) _ _ hrow
        clear hrow
        have hS3 := hS0.next (Below.setRow' ((Below.refl _ w').alloc (Nat.le_refl _) (.cells #[.int .i64 0, .int .i64 0] 34)) (Nat.le_refl w'.heap.size) (#[.int .i64 xk, .int .i64 yk]))
        have hl := (own_below hl0 (Below.setRow' ((Below.refl _ w').alloc (Nat.le_refl _) (.cells #[.int .i64 0, .int .i64 0] 34)) (Nat.le_refl w'.heap.size) (#[.int .i64 xk, .int .i64 yk])))
        clear hS hS2 hS0
        refine hK9.out _ _ hS3 (fun hS => ?_)
        clear hK9 K9 hS3
        obtain ⟨T, hT⟩ : ∃ T, w'.heap.size = T := ⟨_, rfl⟩
        obtain ⟨WB, hWB⟩ : ∃ V, (w'.alloc (.cells #[.int .i64 0, .int .i64 0] 34)).setRow w'.heap.size (#[.int .i64 xk, .int .i64 yk]) = V := ⟨_, rfl⟩
        rw [hWB] at hS hrow2 hl ⊢
        rw [hT] at hrow2 ⊢
        clear hT hWB hl0
        refine wpAnyH_take (i := 13) (oi := { dst := some 14, op := Op.assign (Operand.tmp 61), type := 4, pos := "more.go:70", after := #[{ on := 10, ground := Ground.data }, { on := 12, ground := Ground.chain }, { on := 0, ground := Ground.phase }, { on := 1, ground := Ground.phase }, { on := 2, ground := Ground.phase }, { on := 3, ground := Ground.phase }, { on := 4, ground := Ground.phase }, { on := 5, ground := Ground.phase }, { on := 6, ground := Ground.phase }, { on := 7, ground := Ground.phase }, { on := 8, ground := Ground.phase }, { on := 9, ground := Ground.phase }, { on := 10, ground := Ground.phase }, { on := 11, ground := Ground.phase }, { on := 12, ground := Ground.phase }], guard := none }) (v := ?vjc13) rfl (by kernel_rfl) (by kernel_rfl) (by kernel_rfl) (fun _ _ _ h => h) (Or.inl ⟨by rfl, ?yjc13⟩) hS ?rjc13
        case yjc13 => (intro w hS; go_simp; try with_reducible rfl)
        refine wpAnyH_done (by kernel_rfl) ?_ _

        have t0 := cell_of_row _ T 0 _ _ _ hrow2
        have t1 := cell_of_row _ T 1 _ _ _ hrow2
        have hbl := hS.b.size
        have HSx := Lib.hid hS; clear hS hrow2
        try dsimp only [Act.put]
        go_wp2_with (at_builtin; refine wpList_append_lies _ rfl _ _ 32 rfl W6.heap.size 34 i0 (.agg #[.int .i64 0, .int .i64 0]) 2 16 Tryd.underlying32 hi hz0 hz1 hz2 rfl (by decide) _ k (shs fr K.length N k) rfl (own_below hl ((Below.refl _ _).alloc (Nat.le_refl _) _)) ⟨WB.heap.size, 0, none⟩ 1 1 [.int .i64 xk, .int .i64 yk] rfl rfl (news_two _ _ _ _) (by simp [Value.oneCell']) Nat.zero_lt_one hA1.out.1 hA1.out.2 (by simp; omega) _ rfl ?_; intro g9 c9 w9 hown9 hgrow9 hat9 hlt9)
        have b9 := (HSx.out.b.alloc HSx.out.b.size (.cells #[.int .i64 xk, .int .i64 yk] 34)).grown hgrow9 (by simp; omega) (fun r hr => (hl.lt r hr).1)
        rw [hsnoc.out] at hown9
        have H9 := Lib.hid (And.intro b9 hown9)
        clear hown9 hgrow9 hat9 hlt9 t0 t1 hl HSx b9
        go_wp2
        exact ⟨⟨k + 1, _, by omega, rfl, by go_num, H9⟩, by simp; omega⟩

      · skip
        go_simp
        have hrow := heap_alloc_new wr.drew (.cells #[.int .i64 0, .int .i64 0] 34)
        have hlt := (Array.getElem?_eq_some_iff.1 hrow).1
        have hS2 := hS.next ((Below.refl _ wr.drew).alloc (Nat.le_refl _) (.cells #[.int .i64 0, .int .i64 0] 34))
        have hS0 := hS
        clear hS
        refine hKb.out _ _ hS2 (fun hS => ?_)
        clear hKb Kb hS2
        refine wpAnyH_ready (rs := [7]) (by kernel_rfl) (by simp) ?_
        refine AllReadyH.cons (o := { dst := some 59, op := Op.call { callee := Callee.value (Operand.func 9), args := #[Operand.tmp 56, Operand.tmp 57, Operand.tmp 58], argTypes := #[3, 29, 3] }, type := 35, pos := "more.go:70", after := #[{ on := 4, ground := Ground.data }, { on := 5, ground := Ground.data }, { on := 6, ground := Ground.data }], guard := none }) rfl (fun Ka hKa => ?_) AllReadyH.nil
        go_simp
        go_at_call 9
        refine (HO.out _ hS.b).mono ?_
        rintro e w' ⟨rfl, b⟩
        have hS2 := hS.next b
        try go_simp
        replace hrow := (b.block _ hlt).trans hrow
        have hB3 := Below.setRow' (((Below.refl _ wr.drew).alloc (Nat.le_refl _) (.cells #[.int .i64 0, .int .i64 0] 34)).trans (b.mono (World.size_alloc _ _ ▸ Nat.le_succ _))) (Nat.le_refl wr.drew.heap.size) (#[.int .i64 xk, .int .i64 yk])
        have hl := own_below hl0 hB3
        have hS3 := hS0.next hB3
        clear hS
        refine hKa.out _ _ hS2 (fun hS => ?_)
        clear hKa Ka hS2 b hlt
        refine wpAnyH_take (i := 8) (oi := { dst := some 51, op := Op.move (Operand.tmp 59), type := 35, pos := "more.go:70", after := #[{ on := 7, ground := Ground.data }], guard := none }) (v := ?vjd8) rfl (by kernel_rfl) (by kernel_rfl) (by kernel_rfl) (fun _ _ _ h => h) (Or.inl ⟨by rfl, ?yjd8⟩) hS ?rjd8
        case yjd8 => (intro w hS; go_simp; try with_reducible rfl)
        go_simp
        refine wpAnyH_take (i := 9) (oi := { dst := some 60, op := Op.extract (Operand.tmp 51) 0, type := 34, pos := "more.go:70", after := #[{ on := 8, ground := Ground.data }], guard := none }) (v := ?vjd9) rfl (by kernel_rfl) (by kernel_rfl) (by kernel_rfl) (fun _ _ _ h => h) (Or.inl ⟨by rfl, ?yjd9⟩) hS ?rjd9
        case yjd9 => (intro w hS; go_simp; try with_reducible rfl)
        refine wpAnyH_take (i := 10) (oi := { dst := some 61, op := Op.extract (Operand.tmp 51) 1, type := 4, pos := "more.go:70", after := #[{ on := 8, ground := Ground.data }, { on := 12, ground := Ground.gcOnly Departure.lateStores }], guard := none }) (v := ?vjd10) rfl (by kernel_rfl) (by kernel_rfl) (by kernel_rfl) (fun _ _ _ h => h) (Or.inl ⟨by rfl, ?yjd10⟩) hS ?rjd10
        case yjd10 => (intro w hS; go_simp; try with_reducible rfl)
        go_simp
        refine wpAnyH_ready (rs := [12]) (by kernel_rfl) (by simp) ?_
        refine AllReadyH.cons (o := { dst := none, op := Op.store 34 (Operand.tmp 13) (Operand.tmp 60), type := 0, pos := "more.go:70", after := #[{ on := 11, ground := Ground.data }, { on := 9, ground := Ground.data }, { on := 7, ground := Ground.chain }, { on := 0, ground := Ground.phase }, { on := 1, ground := Ground.phase }, { on := 2, ground := Ground.phase }, { on := 3, ground := Ground.phase }, { on := 4, ground := Ground.phase }, { on := 5, ground := Ground.phase }, { on := 6, ground := Ground.phase }, { on := 7, ground := Ground.phase }, { on := 8, ground := Ground.phase }, { on := 9, ground := Ground.phase }, { on := 10, ground := Ground.textOnly Departure.lateStores }, { on := 11, ground := Ground.phase }], guard := none }) rfl (fun K9 hK9 => ?_) AllReadyH.nil
        rw [if_pos (by rfl)]
        refine wp_store_row 34 (.tmp 13) (.tmp 60) rfl (wr.drew.heap.size) (#[.int .i64 xk, .int .i64 yk]) (by first | rfl | (simp [Act.eval])) (by first | rfl | (simp [Act.eval])) 34 _ hrow (infoS _ _).out (two_sz _ _ rfl) (sh_one _ _) ?_
        have hrow2 := setRow_heap _ _ _ (#[.int .i64 xk, .int .i64 yk]) _ _ hrow
        clear hrow
        clear hS hS0 hB3
        refine hK9.out _ _ hS3 (fun hS => ?_)
        clear hK9 K9 hS3
        have hd : wr.drew.heap.size = wr.heap.size := rfl
        obtain ⟨T, hT⟩ : ∃ T, wr.heap.size = T := ⟨_, rfl⟩
        try rw [hd, hT] at hS
        try rw [hd, hT] at hrow2
        try rw [hd, hT] at hl
        try rw [hd]
        rw [hT]
        clear hd
        obtain ⟨WB, hWB⟩ : ∃ V, w'.setRow T (#[.int .i64 xk, .int .i64 yk]) = V := ⟨_, rfl⟩
        rw [hWB] at hS hrow2 hl ⊢
        clear hT hWB hl0
        refine wpAnyH_take (i := 13) (oi := { dst := some 14, op := Op.assign (Operand.tmp 61), type := 4, pos := "more.go:70", after := #[{ on := 10, ground := Ground.data }, { on := 12, ground := Ground.chain }, { on := 0, ground := Ground.phase }, { on := 1, ground := Ground.phase }, { on := 2, ground := Ground.phase }, { on := 3, ground := Ground.phase }, { on := 4, ground := Ground.phase }, { on := 5, ground := Ground.phase }, { on := 6, ground := Ground.phase }, { on := 7, ground := Ground.phase }, { on := 8, ground := Ground.phase }, { on := 9, ground := Ground.phase }, { on := 10, ground := Ground.phase }, { on := 11, ground := Ground.phase }, { on := 12, ground := Ground.phase }], guard := none }) (v := ?vjd13) rfl (by kernel_rfl) (by kernel_rfl) (by kernel_rfl) (fun _ _ _ h => h) (Or.inl ⟨by rfl, ?yjd13⟩) hS ?rjd13
        case yjd13 => (intro w hS; go_simp; try with_reducible rfl)
        refine wpAnyH_done (by kernel_rfl) ?_ _

        have t0 := cell_of_row _ T 0 _ _ _ hrow2
        have t1 := cell_of_row _ T 1 _ _ _ hrow2
        have hbl := hS.b.size
        have HSx := Lib.hid hS; clear hS hrow2
        try dsimp only [Act.put]
        go_wp2_with (at_builtin; refine wpList_append_lies _ rfl _ _ 32 rfl W6.heap.size 34 i0 (.agg #[.int .i64 0, .int .i64 0]) 2 16 Tryd.underlying32 hi hz0 hz1 hz2 rfl (by decide) _ k (shs fr K.length N k) rfl (own_below hl ((Below.refl _ _).alloc (Nat.le_refl _) _)) ⟨WB.heap.size, 0, none⟩ 1 1 [.int .i64 xk, .int .i64 yk] rfl rfl (news_two _ _ _ _) (by simp [Value.oneCell']) Nat.zero_lt_one hA1.out.1 hA1.out.2 (by simp; omega) _ rfl ?_; intro g9 c9 w9 hown9 hgrow9 hat9 hlt9)
        have b9 := (HSx.out.b.alloc HSx.out.b.size (.cells #[.int .i64 xk, .int .i64 yk] 34)).grown hgrow9 (by simp; omega) (fun r hr => (hl.lt r hr).1)
        rw [hsnoc.out] at hown9
        have H9 := Lib.hid (And.intro b9 hown9)
        clear hown9 hgrow9 hat9 hlt9 t0 t1 hl HSx b9
        go_wp2
        exact ⟨⟨k + 1, _, by omega, rfl, by go_num, H9⟩, by simp; omega⟩

    · obtain rfl : k = N.length := by omega
      obtain ⟨g, cap, rfl, hg⟩ := own2 HR.out.2 (by omega)
      have HG : Hid (∀ i, i < N.length → wr.cell? ⟨g, i * 2, none⟩ = some (.int .i64 (jx fr K.length i)) ∧ wr.cell? ⟨g, i * 2 + 1, none⟩ = some (.int .i64 (vl N (jx fr K.length i)))) := Lib.hid fun i hi => ⟨hg _ _ (shs_get _ _ _ _ i hi).1, hg _ _ (shs_get _ _ _ _ i hi).2⟩
      clear hg
      go_wp2_with fail
      have HW := Lib.hid (And.intro HR.out.1 HG.out); clear HR HG
      obtain ⟨W8, hW8⟩ : ∃ V, wr = V := ⟨_, rfl⟩
      rw [hW8] at HW ⊢
      clear hW8 wr
      obtain ⟨xs, hxs⟩ : ∃ xs, jxs fr K.length N.length = xs := ⟨_, rfl⟩
      obtain ⟨gf, hgf⟩ : ∃ gf : Int → Int, (fun x => fz x (vl N x) xs) = gf := ⟨_, rfl⟩
      go_loopw [71, 15] (fun i sm wr => ∃ j : Nat, j ≤ N.length ∧ i = .int .i64 (j : Int) ∧ sm = .int .i64 (sz gf (xs.take j)) ∧ Hid (Below W8.heap.size W8 wr)) (fun i _ _ => N.length - (match i with | .int _ i => i.toNat | _ => 0))
      case atStart => exact ⟨0, Nat.zero_le _, rfl, rfl, Lib.hid (Below.refl _ _)⟩
      case round =>
        obtain ⟨j, hj, rfl, rfl, HB⟩ := hrel
        by_cases hlt : j < N.length
        · obtain ⟨g0, g1⟩ := HW.out.2 j hlt
          replace g0 := (HB.out.cell (p := ⟨g, j * 2, none⟩) (World.block_lt_of_cell? _ _ g0)).trans g0
          replace g1 := (HB.out.cell (p := ⟨g, j * 2 + 1, none⟩) (World.block_lt_of_cell? _ _ g1)).trans g1
          have hxr := jx_rng fr K.length j (by omega)
          have hxj : Hid (xs[j]? = some (jx fr K.length j)) := Lib.hid (by rw [← hxs]; exact jxs_get _ _ _ _ hlt)
          obtain ⟨xj, hxj2⟩ : ∃ x, jx fr K.length j = x := ⟨_, rfl⟩
          have hII := Lib.hid fun a (ha : a < N.length) (hne : a ≠ j) => I1.out a j ha hlt hne
          rw [hxj2] at g0 g1 hxr hxj hII
          go_upto_region 20 with fail
          clear g0 g1
          have hr9 := heap_alloc_new wr (.cells #[.int .i64 xj, .int .i64 (vl N xj)] 34)
          have b9 := HB.out.alloc HB.out.size (.cells #[.int .i64 xj, .int .i64 (vl N xj)] 34)
          have t0 := cell_of_row _ wr.heap.size 0 _ _ _ hr9
          have t1 := cell_of_row _ wr.heap.size 1 _ _ _ hr9
          have hyr := vl_rng N xj
          have hgj : Hid (gf xj = fz xj (vl N xj) xs) := Lib.hid (by rw [← hgf])
          obtain ⟨T, hT⟩ : ∃ T, wr.heap.size = T := ⟨_, rfl⟩
          obtain ⟨W9, hW9⟩ : ∃ V, wr.alloc (.cells #[.int .i64 xj, .int .i64 (vl N xj)] 34) = V := ⟨_, rfl⟩
          rw [hW9] at b9 t0 t1 ⊢
          rw [hT] at t0 t1 ⊢
          clear hT hW9 hr9 HB
          obtain ⟨yj, hyj⟩ : ∃ y, vl N xj = y := ⟨_, rfl⟩
          rw [hyj] at t1 hyr hgj ⊢
          clear hyj
          have H9 := Lib.hid (And.intro b9 (And.intro t0 hyr)); clear b9 t0 hyr
          obtain ⟨sj, hsj⟩ : ∃ x, sz gf (xs.take j) = x := ⟨_, rfl⟩
          have hsr := sz_rng gf (xs.take j)
          have hsn : Hid (sz gf (xs.take (j+1)) = ga sj (gf xj) 1152921504606845789) := Lib.hid (by rw [take_snoc xs j xj hxj.out, sz_snoc, hsj])
          rw [hsj] at hsr ⊢
          clear hsj
          go_wp2_with fail
          clear t1
          go_loopw [80, 18] (fun i f wr => ∃ a : Nat, a ≤ N.length ∧ i = .int .i64 (a : Int) ∧ f = .int .i64 (fz xj yj (xs.take a)) ∧ Hid (Below W9.heap.size W9 wr)) (fun i _ _ => N.length - (match i with | .int _ i => i.toNat | _ => 0))
          case atStart => exact ⟨0, Nat.zero_le _, rfl, rfl, Lib.hid (Below.refl _ _)⟩
          case round =>
            obtain ⟨a, ha, rfl, rfl, HC⟩ := hrel
            by_cases hla : a < N.length
            · obtain ⟨g0, g1⟩ := HW.out.2 a hla
              have b89 := H9.out.1
              replace g0 := (HC.out.cell (p := ⟨g, a * 2, none⟩) (Nat.lt_of_lt_of_le (World.block_lt_of_cell? _ _ g0) b89.size)).trans ((b89.cell (p := ⟨g, a * 2, none⟩) (World.block_lt_of_cell? _ _ g0)).trans g0)
              replace g1 := (HC.out.cell (p := ⟨g, a * 2 + 1, none⟩) (Nat.lt_of_lt_of_le (World.block_lt_of_cell? _ _ g1) b89.size)).trans ((b89.cell (p := ⟨g, a * 2 + 1, none⟩) (World.block_lt_of_cell? _ _ g1)).trans g1)
              have t0 := (HC.out.cell (p := ⟨T, 0, none⟩) (World.block_lt_of_cell? _ _ H9.out.2.1)).trans H9.out.2.1
              have hxa : Hid (xs[a]? = some (jx fr K.length a)) := Lib.hid (by rw [← hxs]; exact jxs_get _ _ _ _ hla)
              have har := jx_rng fr K.length a (by omega)
              have hfr9 := fz_rng xj yj (xs.take a) H9.out.2.2
              have hfs := Lib.hid (fz_snoc xj yj (xs.take a) (jx fr K.length a))
              have hts := Lib.hid (take_snoc xs a _ hxa.out)
              obtain ⟨fa, hfa⟩ : ∃ x, fz xj yj (xs.take a) = x := ⟨_, rfl⟩
              rw [hfa] at hfr9 hfs ⊢
              clear b89 hfa
              by_cases hne : a = j
              · have hfs2 : Hid (fa = fz xj yj (xs.take (a+1))) := Lib.hid (by rw [hts.out, hfs.out, hne, hxj2, if_pos rfl])
                have x1 : ((j : Int) == (a : Int)) = true := by rw [hne]; simp
                obtain ⟨ya, hya⟩ : ∃ y, vl N (jx fr K.length a) = y := ⟨_, rfl⟩
                obtain ⟨xa, hxa2⟩ : ∃ x, jx fr K.length a = x := ⟨_, rfl⟩
                rw [hya] at g1
                rw [hxa2] at g0
                clear hts hfs hne hxa har hya hxa2 t0
                go_wp2
                exact ⟨⟨a + 1, by omega, by go_num, by rw [hfs2.out], Lib.hid (HC.out.alloc HC.out.size _)⟩, by simp; omega⟩
              · have hIa := Lib.hid (hII.out a hla hne)
                have hnx : jx fr K.length a ≠ xj := by rw [← hxj2]; exact jx_ne _ _ _ _ (by omega) (by omega) hne
                have hvi : i64 (iv (jx fr K.length a - xj)) := iv_i _ (by rw [← hxj2]; exact jx_dvd _ _ _ _ (by omega) (by omega) hM hne)
                have hfs2 : Hid (gm fa (gm (jx fr K.length a) (iv (jx fr K.length a - xj)) 1152921504606845789) 1152921504606845789 = fz xj yj (xs.take (a+1))) := Lib.hid (by rw [hts.out, hfs.out, if_neg hnx])
                have x1 : ((j : Int) == (a : Int)) = false := by simp; omega
                obtain ⟨ya, hya⟩ : ∃ y, vl N (jx fr K.length a) = y := ⟨_, rfl⟩
                rw [hya] at g1
                obtain ⟨xa, hxa2⟩ : ∃ x, jx fr K.length a = x := ⟨_, rfl⟩
                rw [hxa2] at g0 har hIa hvi hfs2
                obtain ⟨vi, hvi2⟩ : ∃ x, iv (xa - xj) = x := ⟨_, rfl⟩
                rw [hvi2] at hIa hvi hfs2
                have M2 := Lib.hid fun W => M1.out W xa vi ⟨by omega, by omega⟩ hvi
                have M3 := Lib.hid fun W => M1.out W fa (gm xa vi 1152921504606845789) ⟨by omega, by omega⟩ ⟨by have := mQr xa vi; omega, by have := mQr xa vi; omega⟩
                obtain ⟨m2, hm2⟩ : ∃ x, gm xa vi 1152921504606845789 = x := ⟨_, rfl⟩
                rw [hm2] at M2 M3 hfs2
                obtain ⟨m3, hm3⟩ : ∃ x, gm fa m2 1152921504606845789 = x := ⟨_, rfl⟩
                rw [hm3] at M3 hfs2
                clear hts hfs hne hxa hya hxa2 hnx hvi2 hm2 hm3 hvi
                go_upto_region 25 with fail
                have bU := (Below.refl wr.heap.size wr).alloc (Nat.le_refl _) (.cells #[.int .i64 xa, .int .i64 ya] 34)
                have HC2 := Lib.hid (HC.out.alloc HC.out.size (.cells #[.int .i64 xa, .int .i64 ya] 34))
                have u0 := cell_of_row _ wr.heap.size 0 _ _ _ (heap_alloc_new wr (.cells #[.int .i64 xa, .int .i64 ya] 34))
                replace t0 := (bU.cell (p := ⟨T, 0, none⟩) (World.block_lt_of_cell? _ _ t0)).trans t0
                obtain ⟨U, hU⟩ : ∃ U, wr.heap.size = U := ⟨_, rfl⟩
                obtain ⟨WU, hWU⟩ : ∃ V, wr.alloc (.cells #[.int .i64 xa, .int .i64 ya] 34) = V := ⟨_, rfl⟩
                rw [hWU] at HC2 u0 t0 ⊢
                rw [hU] at u0 ⊢
                clear hU hWU bU HC g0 g1
                go_wp2_with fail
                refine (hIa.out _).mono ?_
                rintro e w5 ⟨rfl, rfl⟩
                go_wp2_with fail
                refine (M2.out _).mono ?_
                rintro e w6 ⟨rfl, rfl⟩
                go_wp2_with fail
                refine (M3.out _).mono ?_
                rintro e w7 ⟨rfl, rfl⟩
                go_wp2
                exact ⟨⟨a + 1, by omega, by go_num, by rw [hfs2.out], HC2⟩, by simp; omega⟩
            · obtain rfl : a = N.length := by omega
              have hx9 : xs.take N.length = xs := List.take_of_length_le (by rw [← hxs, jxs_len]; exact Nat.le_refl _)
              rw [hx9, ← hgj.out]
              have hgr : 0 ≤ gf xj ∧ gf xj < 1152921504606845789 := by rw [hgj.out]; exact fz_rng xj yj xs H9.out.2.2
              obtain ⟨gj, hgj2⟩ : ∃ x, gf xj = x := ⟨_, rfl⟩
              rw [hgj2] at hgr hsn ⊢
              have A2 := Lib.hid fun W => A1.out W sj gj ⟨by omega, by omega⟩ ⟨by omega, by omega⟩
              rw [← hsn.out] at A2
              clear hx9 hgj2
              go_wp2_with fail
              refine (A2.out _).mono ?_
              rintro e w7 ⟨rfl, rfl⟩
              go_wp2
              exact ⟨⟨j + 1, by omega, by go_num, rfl, Lib.hid (H9.out.1.trans (HC.out.mono H9.out.1.size))⟩, by simp; omega⟩
        · obtain rfl : j = N.length := by omega
          have hx9 : xs.take N.length = xs := List.take_of_length_le (by rw [← hxs, jxs_len]; exact Nat.le_refl _)
          have hs9 : sz gf xs = n0 := by rw [← hgf, ← hxs]; exact HT0.out.2.2.2.1
          rw [hx9, hs9]
          have hcp := HZ.out.2.2.2.1
          subst hcp
          have hN2 : 0 < N.length := by omega
          have hn0 : W8.cell? ⟨nb, no, none⟩ = some (.int .i64 n0) := (HW.out.1.cell (p := ⟨nb, no + 0, none⟩) (World.block_lt_of_cell? _ _ HZ.out.1)).trans HZ.out.1
          have hc0 : W8.cell? ⟨cb, co, none⟩ = some (.int .i64 (pp 4 n0)) := (HW.out.1.cell (p := ⟨cb, co + 0, none⟩) (World.block_lt_of_cell? _ _ HZ.out.2.1)).trans HZ.out.2.1
          have hd0 := (HW.out.1.cell (p := ⟨D, 0, none⟩) (World.block_lt_of_cell? _ _ HZ.out.2.2.1)).trans HZ.out.2.2.1
          have hcn := HCN.out
          have hC1 : 0 < C.length := by rw [HT0.out.2.2.2.2.2]; omega
          have hw8 := Lib.hid (H6.out.b.trans (HW.out.1.mono H6.out.b.size))
          clear hx9 hs9 hlt
          go_upto_region 32 with fail
          refine wp_region_held_drew (S := BB W8) (by kernel_rfl) (BB.mk HB.out.drew) (fun hS => ?_)
          refine wpAnyH_take (i := 0) (oi := { dst := some 110, op := Op.move (Operand.tmp 5), type := 4, pos := "more.go:91", after := #[], guard := none }) (v := ?vjz0) rfl (by kernel_rfl) (by kernel_rfl) (by kernel_rfl) (fun _ _ _ h => h) (Or.inl ⟨by rfl, ?yjz0⟩) hS ?rjz0
          case yjz0 => (intro w hS; go_simp; try with_reducible rfl)
          go_simp
          refine wpAnyH_take (i := 1) (oi := { dst := some 111, op := Op.move (Operand.tmp 110), type := 4, pos := "more.go:91", after := #[{ on := 0, ground := Ground.data }], guard := none }) (v := ?vjz1) rfl (by kernel_rfl) (by kernel_rfl) (by kernel_rfl) (fun _ _ _ h => h) (Or.inl ⟨by rfl, ?yjz1⟩) hS ?rjz1
          case yjz1 => (intro w hS; go_simp; try with_reducible rfl)
          go_simp
          refine wpAnyH_take (i := 2) (oi := { dst := some 112, op := Op.move (Operand.tmp 15), type := 3, pos := "more.go:91", after := #[{ on := 1, ground := Ground.guard }], guard := some (1, true) }) (v := ?vjz2) rfl (by kernel_rfl) (by kernel_rfl) (by kernel_rfl) (fun _ _ _ h => h) (Or.inl ⟨by rfl, ?yjz2⟩) hS ?rjz2
          case yjz2 => (intro w hS; go_simp; try with_reducible rfl)
          refine wpAnyH_take (i := 3) (oi := { dst := some 113, op := Op.move (Operand.tmp 7), type := 22, pos := "more.go:91", after := #[{ on := 1, ground := Ground.guard }], guard := some (1, true) }) (v := ?vjz3) rfl (by kernel_rfl) (by kernel_rfl) (by kernel_rfl) (fun _ _ _ h => h) (Or.inl ⟨by rfl, ?yjz3⟩) hS ?rjz3
          case yjz3 => (intro w hS; go_simp; try with_reducible rfl)
          go_simp
          refine wpAnyH_take (i := 4) (oi := { dst := some 114, op := Op.indexAddr 22 (Operand.tmp 113) (Operand.const (Value.int IntKind.i64 0)), type := 0, pos := "more.go:91", after := #[{ on := 3, ground := Ground.data }, { on := 1, ground := Ground.guard }], guard := some (1, true) }) (v := ?vjz4) rfl (by kernel_rfl) (by kernel_rfl) (by kernel_rfl) (fun _ _ _ h => h) (Or.inl ⟨by rfl, ?yjz4⟩) hS ?rjz4
          case yjz4 => (intro w hS; go_simp; try with_reducible rfl)
          go_simp
          refine wpAnyH_take (i := 5) (oi := { dst := some 115, op := Op.load 3 (Operand.tmp 114), type := 3, pos := "more.go:91", after := #[{ on := 4, ground := Ground.data }, { on := 1, ground := Ground.guard }], guard := some (1, true) }) (v := .int .i64 n0) rfl (by kernel_rfl) (by kernel_rfl) (by kernel_rfl) (fun _ _ _ h => h) (Or.inl ⟨by rfl, ?yjz5⟩) hS ?rjz5
          case yjz5 => (intro w' hS; have cf := (hS.b.cell (p := ⟨nb, no, none⟩) (World.block_lt_of_cell? _ _ hn0)).trans hn0; go_simp; try with_reducible rfl)
          go_simp
          refine wpAnyH_take (i := 6) (oi := { dst := some 116, op := Op.binOp BinOp.eql 3 (Operand.tmp 112) (Operand.tmp 115) 3, type := 4, pos := "more.go:91", after := #[{ on := 2, ground := Ground.data }, { on := 5, ground := Ground.data }, { on := 1, ground := Ground.guard }], guard := some (1, true) }) (v := ?vjz6) rfl (by kernel_rfl) (by kernel_rfl) (by kernel_rfl) (fun _ _ _ h => h) (Or.inl ⟨by rfl, ?yjz6⟩) hS ?rjz6
          case yjz6 => (intro w hS; go_simp; try with_reducible rfl)
          go_simp
          refine wpAnyH_take (i := 7) (oi := { dst := some 117, op := Op.pick (Operand.tmp 111) (Operand.tmp 116) (Operand.const (Value.bool false)), type := 4, pos := "more.go:91", after := #[{ on := 1, ground := Ground.data }, { on := 6, ground := Ground.data }], guard := none }) (v := ?vjz7) rfl (by kernel_rfl) (by kernel_rfl) (by kernel_rfl) (fun _ _ _ h => h) (Or.inl ⟨by rfl, ?yjz7⟩) hS ?rjz7
          case yjz7 => (intro w hS; go_simp; try with_reducible rfl)
          go_simp
          refine wpAnyH_take (i := 8) (oi := { dst := some 118, op := Op.move (Operand.tmp 117), type := 4, pos := "more.go:91", after := #[{ on := 7, ground := Ground.data }, { on := 1, ground := Ground.chain }], guard := none }) (v := ?vjz8) rfl (by kernel_rfl) (by kernel_rfl) (by kernel_rfl) (fun _ _ _ h => h) (Or.inl ⟨by rfl, ?yjz8⟩) hS ?rjz8
          case yjz8 => (intro w hS; go_simp; try with_reducible rfl)
          go_simp
          refine wpAnyH_take (i := 9) (oi := { dst := some 119, op := Op.fieldAddr 29 (Operand.tmp 8) 0, type := 0, pos := "more.go:91", after := #[{ on := 8, ground := Ground.guard }], guard := some (8, true) }) (v := ?vjz9) rfl (by kernel_rfl) (by kernel_rfl) (by kernel_rfl) (fun _ _ _ h => h) (Or.inl ⟨by rfl, ?yjz9⟩) hS ?rjz9
          case yjz9 => (intro w hS; go_simp; try with_reducible rfl)
          refine wpAnyH_take (i := 12) (oi := { dst := some 122, op := Op.move (Operand.tmp 7), type := 22, pos := "more.go:91", after := #[{ on := 8, ground := Ground.guard }], guard := some (8, true) }) (v := ?vjz12) rfl (by kernel_rfl) (by kernel_rfl) (by kernel_rfl) (fun _ _ _ h => h) (Or.inl ⟨by rfl, ?yjz12⟩) hS ?rjz12
          case yjz12 => (intro w hS; go_simp; try with_reducible rfl)
          go_simp
          refine wpAnyH_take (i := 10) (oi := { dst := some 120, op := Op.load 22 (Operand.tmp 119), type := 22, pos := "more.go:91", after := #[{ on := 9, ground := Ground.data }, { on := 8, ground := Ground.guard }], guard := some (8, true) }) (v := .slice (some ⟨cb, co, none⟩) C.length cc) rfl (by kernel_rfl) (by kernel_rfl) (by kernel_rfl) (fun _ _ _ h => h) (Or.inl ⟨by rfl, ?yjz10⟩) hS ?rjz10
          case yjz10 => (intro w' hS; have cf := (hS.b.cell (p := ⟨D, 0, none⟩) (World.block_lt_of_cell? _ _ hd0)).trans hd0; go_simp; try with_reducible rfl)
          refine wpAnyH_take (i := 13) (oi := { dst := some 123, op := Op.call { callee := Callee.builtin Builtin.len, args := #[Operand.tmp 122], argTypes := #[22] }, type := 3, pos := "more.go:91", after := #[{ on := 12, ground := Ground.data }, { on := 8, ground := Ground.guard }], guard := some (8, true) }) (v := ?vjz13) rfl (by kernel_rfl) (by kernel_rfl) (by kernel_rfl) (fun _ _ _ h => h) (Or.inl ⟨by rfl, ?yjz13⟩) hS ?rjz13
          case yjz13 => (intro w hS; go_simp; try with_reducible rfl)
          go_simp
          refine wpAnyH_take (i := 11) (oi := { dst := some 121, op := Op.call { callee := Callee.builtin Builtin.len, args := #[Operand.tmp 120], argTypes := #[22] }, type := 3, pos := "more.go:91", after := #[{ on := 10, ground := Ground.data }, { on := 8, ground := Ground.guard }], guard := some (8, true) }) (v := ?vjz11) rfl (by kernel_rfl) (by kernel_rfl) (by kernel_rfl) (fun _ _ _ h => h) (Or.inl ⟨by rfl, ?yjz11⟩) hS ?rjz11
          case yjz11 => (intro w hS; go_simp; try with_reducible rfl)
          go_simp
          refine wpAnyH_take (i := 14) (oi := { dst := some 124, op := Op.binOp BinOp.eql 3 (Operand.tmp 121) (Operand.tmp 123) 3, type := 4, pos := "more.go:91", after := #[{ on := 11, ground := Ground.data }, { on := 13, ground := Ground.data }, { on := 8, ground := Ground.guard }], guard := some (8, true) }) (v := ?vjz14) rfl (by kernel_rfl) (by kernel_rfl) (by kernel_rfl) (fun _ _ _ h => h) (Or.inl ⟨by rfl, ?yjz14⟩) hS ?rjz14
          case yjz14 => (intro w hS; go_simp; try with_reducible rfl)
          go_simp
          refine wpAnyH_take (i := 15) (oi := { dst := some 125, op := Op.pick (Operand.tmp 118) (Operand.tmp 124) (Operand.const (Value.bool false)), type := 4, pos := "more.go:91", after := #[{ on := 8, ground := Ground.data }, { on := 14, ground := Ground.data }], guard := none }) (v := ?vjz15) rfl (by kernel_rfl) (by kernel_rfl) (by kernel_rfl) (fun _ _ _ h => h) (Or.inl ⟨by rfl, ?yjz15⟩) hS ?rjz15
          case yjz15 => (intro w hS; go_simp; try with_reducible rfl)
          go_simp
          refine wpAnyH_take (i := 16) (oi := { dst := some 126, op := Op.move (Operand.tmp 125), type := 4, pos := "more.go:91", after := #[{ on := 15, ground := Ground.data }, { on := 8, ground := Ground.chain }], guard := none }) (v := ?vjz16) rfl (by kernel_rfl) (by kernel_rfl) (by kernel_rfl) (fun _ _ _ h => h) (Or.inl ⟨by rfl, ?yjz16⟩) hS ?rjz16
          case yjz16 => (intro w hS; go_simp; try with_reducible rfl)
          go_simp
          refine wpAnyH_take (i := 17) (oi := { dst := some 127, op := Op.fieldAddr 29 (Operand.tmp 8) 0, type := 0, pos := "more.go:91", after := #[{ on := 16, ground := Ground.guard }], guard := some (16, true) }) (v := ?vjz17) rfl (by kernel_rfl) (by kernel_rfl) (by kernel_rfl) (fun _ _ _ h => h) (Or.inl ⟨by rfl, ?yjz17⟩) hS ?rjz17
          case yjz17 => (intro w hS; go_simp; try with_reducible rfl)
          refine wpAnyH_take (i := 21) (oi := { dst := some 131, op := Op.move (Operand.tmp 15), type := 3, pos := "more.go:91", after := #[{ on := 16, ground := Ground.guard }], guard := some (16, true) }) (v := ?vjz21) rfl (by kernel_rfl) (by kernel_rfl) (by kernel_rfl) (fun _ _ _ h => h) (Or.inl ⟨by rfl, ?yjz21⟩) hS ?rjz21
          case yjz21 => (intro w hS; go_simp; try with_reducible rfl)
          go_simp
          refine wpAnyH_take (i := 18) (oi := { dst := some 128, op := Op.load 22 (Operand.tmp 127), type := 22, pos := "more.go:91", after := #[{ on := 17, ground := Ground.data }, { on := 16, ground := Ground.guard }], guard := some (16, true) }) (v := .slice (some ⟨cb, co, none⟩) C.length cc) rfl (by kernel_rfl) (by kernel_rfl) (by kernel_rfl) (fun _ _ _ h => h) (Or.inl ⟨by rfl, ?yjz18⟩) hS ?rjz18
          case yjz18 => (intro w' hS; have cf := (hS.b.cell (p := ⟨D, 0, none⟩) (World.block_lt_of_cell? _ _ hd0)).trans hd0; go_simp; try with_reducible rfl)
          go_simp
          refine wpAnyH_take (i := 19) (oi := { dst := some 129, op := Op.indexAddr 22 (Operand.tmp 128) (Operand.const (Value.int IntKind.i64 0)), type := 0, pos := "more.go:91", after := #[{ on := 18, ground := Ground.data }, { on := 16, ground := Ground.guard }], guard := some (16, true) }) (v := ?vjz19) rfl (by kernel_rfl) (by kernel_rfl) (by kernel_rfl) (fun _ _ _ h => h) (Or.inl ⟨by rfl, ?yjz19⟩) hS ?rjz19
          case yjz19 => (intro w hS; go_simp; try with_reducible rfl)
          go_simp
          refine wpAnyH_take (i := 20) (oi := { dst := some 130, op := Op.load 3 (Operand.tmp 129), type := 3, pos := "more.go:91", after := #[{ on := 19, ground := Ground.data }, { on := 16, ground := Ground.guard }], guard := some (16, true) }) (v := .int .i64 (pp 4 n0)) rfl (by kernel_rfl) (by kernel_rfl) (by kernel_rfl) (fun _ _ _ h => h) (Or.inl ⟨by rfl, ?yjz20⟩) hS ?rjz20
          case yjz20 => (intro w' hS; have cf := (hS.b.cell (p := ⟨cb, co, none⟩) (World.block_lt_of_cell? _ _ hc0)).trans hc0; go_simp; try with_reducible rfl)
          go_simp
          refine wpAnyH_ready (rs := [22]) (by kernel_rfl) (by simp) ?_
          refine AllReadyH.cons (o := { dst := some 132, op := Op.call { callee := Callee.value (Operand.func 13), args := #[Operand.const (Value.int IntKind.i64 4), Operand.tmp 131, Operand.const (Value.int IntKind.i64 2305843009213691579)], argTypes := #[3, 3, 3] }, type := 3, pos := "more.go:91", after := #[{ on := 21, ground := Ground.data }, { on := 16, ground := Ground.chain }, { on := 16, ground := Ground.guard }], guard := some (16, true) }) rfl (fun K hK => ?_) AllReadyH.nil
          go_simp
          go_at_call 13
          refine (P1.out _).mono ?_
          rintro e w' ⟨rfl, b⟩
          have hS2 := hS.next b
          clear b hS
          try go_simp
          refine hK.out _ _ hS2 (fun hS => ?_)
          clear hK K hS2
          refine wpAnyH_take (i := 23) (oi := { dst := some 133, op := Op.binOp BinOp.eql 3 (Operand.tmp 130) (Operand.tmp 132) 3, type := 4, pos := "more.go:91", after := #[{ on := 20, ground := Ground.data }, { on := 22, ground := Ground.data }, { on := 16, ground := Ground.guard }], guard := some (16, true) }) (v := ?vjz23) rfl (by kernel_rfl) (by kernel_rfl) (by kernel_rfl) (fun _ _ _ h => h) (Or.inl ⟨by rfl, ?yjz23⟩) hS ?rjz23
          case yjz23 => (intro w hS; go_simp; try with_reducible rfl)
          go_simp
          refine wpAnyH_take (i := 24) (oi := { dst := some 134, op := Op.pick (Operand.tmp 126) (Operand.tmp 133) (Operand.const (Value.bool false)), type := 4, pos := "more.go:91", after := #[{ on := 16, ground := Ground.data }, { on := 23, ground := Ground.data }], guard := none }) (v := ?vjz24) rfl (by kernel_rfl) (by kernel_rfl) (by kernel_rfl) (fun _ _ _ h => h) (Or.inl ⟨by rfl, ?yjz24⟩) hS ?rjz24
          case yjz24 => (intro w hS; go_simp; try with_reducible rfl)
          go_simp
          refine wpAnyH_take (i := 25) (oi := { dst := some 4, op := Op.assign (Operand.tmp 134), type := 4, pos := "more.go:91", after := #[{ on := 24, ground := Ground.data }, { on := 22, ground := Ground.chain }, { on := 0, ground := Ground.phase }, { on := 1, ground := Ground.phase }, { on := 2, ground := Ground.phase }, { on := 3, ground := Ground.phase }, { on := 4, ground := Ground.phase }, { on := 5, ground := Ground.phase }, { on := 6, ground := Ground.phase }, { on := 7, ground := Ground.phase }, { on := 8, ground := Ground.phase }, { on := 9, ground := Ground.phase }, { on := 10, ground := Ground.phase }, { on := 11, ground := Ground.phase }, { on := 12, ground := Ground.phase }, { on := 13, ground := Ground.phase }, { on := 14, ground := Ground.phase }, { on := 15, ground := Ground.phase }, { on := 16, ground := Ground.phase }, { on := 17, ground := Ground.phase }, { on := 18, ground := Ground.phase }, { on := 19, ground := Ground.phase }, { on := 20, ground := Ground.phase }, { on := 21, ground := Ground.phase }, { on := 22, ground := Ground.phase }, { on := 23, ground := Ground.phase }, { on := 24, ground := Ground.phase }], guard := none }) (v := ?vjz25) rfl (by kernel_rfl) (by kernel_rfl) (by kernel_rfl) (fun _ _ _ h => h) (Or.inl ⟨by rfl, ?yjz25⟩) hS ?rjz25
          case yjz25 => (intro w hS; go_simp; try with_reducible rfl)
          refine wpAnyH_done (by kernel_rfl) ?_ _
          try dsimp only [Act.put]
          have h9 := Lib.hid (hw8.out.trans (hS.b.mono hw8.out.size)); clear hS
          go_wp2
          go_ret
          exact ⟨rfl, h9.out⟩
end Go.Proofs.YtjfbpmpdcmealaaDoor.D7
