/-
  What the walk of the law DealHonest keeps.
  The walk of the law DealHonest.
-/
import Derived.Test.YtjfbpmpdcmealaaGreatDoorDRefC
import Derived.Test.YtjfbpmpdcmealaaGreatDoorDSanW
import Derived.Test.YtjfbpmpdcmealaaGreatDoorDIn
namespace Go.Proofs.YtjfbpmpdcmealaaGreatDoor.D7
open Go.RowKit GM SH G4 E6 D7P
/-- cells that stay, and the size of the heap -/
structure HB (w : World) (L : List (Addr × Value)) (cs : Array Value) (W : World) : Prop where
  k : CK w L [] W
  s : w.heap.size + 3 ≤ W.heap.size
  rc : W.heap[w.heap.size + 1]? = some (.cells cs 28 (0, 0))
theorem HB.b {w W : World} {L : List (Addr × Value)} {cs : Array Value} (h : HB w L cs W) : Below w.heap.size w W := h.k.b
theorem HB.next {w W V : World} {L : List (Addr × Value)} {cs : Array Value} (h : HB w L cs W) (k : Below W.heap.size W V) : HB w L cs V := ⟨h.k.next k, Nat.le_trans h.s k.size, (k.block _ (by have := h.s; omega)).trans h.rc⟩
theorem HB.drew {w W : World} {L : List (Addr × Value)} {cs : Array Value} (h : HB w L cs W) : HB w L cs W.drew := ⟨h.k.drew, h.s, h.rc⟩
theorem HB.get {w W : World} {L : List (Addr × Value)} {cs : Array Value} (h : HB w L cs W) (p : Addr) (v : Value) (hp : (p, v) ∈ L) : W.cell? p = some v := h.k.get p v hp
/-- and the keys, the commitments, the boxes -/
structure HT (w : World) (L : List (Addr × Value)) (kv cv bv : Value) (K C : List Int) (B : List ByteArray) (cs : Array Value) (W : World) : Prop where
  k : HB w L cs W
  hK : W.ownsRow (w.heap.size + 3) 3 1 kv K.length (K.map (Value.int .i64))
  hC : W.ownsRow (w.heap.size + 3) 3 1 cv C.length (C.map (Value.int .i64))
  hB : W.ownsRow (w.heap.size + 3) 9 1 bv B.length (B.map Value.string)
theorem HT.b {w W : World} {L : List (Addr × Value)} {kv cv bv : Value} {K C : List Int} {B : List ByteArray} {cs : Array Value} (h : HT w L kv cv bv K C B cs W) : Below w.heap.size w W := h.k.b
theorem HT.next {w W V : World} {L : List (Addr × Value)} {kv cv bv : Value} {K C : List Int} {B : List ByteArray} {cs : Array Value} (h : HT w L kv cv bv K C B cs W) (k : Below W.heap.size W V) : HT w L kv cv bv K C B cs V := ⟨h.k.next k, own_below h.hK k, own_below h.hC k, own_below h.hB k⟩
theorem HT.alloc {w W : World} {L : List (Addr × Value)} {kv cv bv : Value} {K C : List Int} {B : List ByteArray} {cs : Array Value} (h : HT w L kv cv bv K C B cs W) (o : Obj) : HT w L kv cv bv K C B cs (W.alloc o) := h.next ((Below.refl _ W).alloc (Nat.le_refl _) o)
theorem HT.drew {w W : World} {L : List (Addr × Value)} {kv cv bv : Value} {K C : List Int} {B : List ByteArray} {cs : Array Value} (h : HT w L kv cv bv K C B cs W) : HT w L kv cv bv K C B cs W.drew := ⟨h.k.drew, own_below h.hK (Below.refl _ W).drew, own_below h.hC (Below.refl _ W).drew, own_below h.hB (Below.refl _ W).drew⟩
theorem HT.get {w W : World} {L : List (Addr × Value)} {kv cv bv : Value} {K C : List Int} {B : List ByteArray} {cs : Array Value} (h : HT w L kv cv bv K C B cs W) (p : Addr) (v : Value) (hp : (p, v) ∈ L) : W.cell? p = some v := h.k.get p v hp
theorem HT.add {w W : World} {L : List (Addr × Value)} {kv cv bv : Value} {K C : List Int} {B : List ByteArray} {cs : Array Value} (h : HT w L kv cv bv K C B cs W) (M : List (Addr × Value)) (hM : ∀ p ∈ M, W.cell? p.1 = some p.2) : HT w (M ++ L) kv cv bv K C B cs W :=
  ⟨⟨⟨h.b, fun p hp => by
    rcases List.mem_append.1 hp with hp | hp
    · exact hM p hp
    · exact h.k.k.c p hp, fun p hp => by cases hp⟩, h.k.s, h.k.rc⟩, h.hK, h.hC, h.hB⟩
/-- the cells of a new block -/
theorem HT.cells {w W : World} {L : List (Addr × Value)} {kv cv bv : Value} {K C : List Int} {B : List ByteArray} {cs : Array Value} (h : HT w L kv cv bv K C B cs W) (c2 : Array Value) (t : TypeId) (l : List Value) (hl : c2.toList = l) : HT w (l.mapIdx (fun j v => ((⟨W.heap.size, j, none⟩ : Addr), v)) ++ L) kv cv bv K C B cs (W.alloc (.cells c2 t)) := by
  refine (h.alloc _).add _ (fun p hp => ?_)
  obtain ⟨j, hj, rfl⟩ := List.mem_mapIdx.1 hp
  rw [World.cell?_alloc_at _ _ _ _ rfl]
  subst hl
  simp at hj
  simp [hj]
/-- the cells of a row -/
theorem HT.rows {w W : World} {L : List (Addr × Value)} {kv cv bv : Value} {K C : List Int} {B : List ByteArray} {cs : Array Value} (h : HT w L kv cv bv K C B cs W) (d : Nat) (c2 : Array Value) (t : TypeId) (l : List Value) (hl : c2.toList = l) (hr : W.heap[d]? = some (.cells c2 t (0, 0))) : HT w (l.mapIdx (fun j v => ((⟨d, j, none⟩ : Addr), v)) ++ L) kv cv bv K C B cs W := by
  refine h.add _ (fun p hp => ?_)
  obtain ⟨j, hj, rfl⟩ := List.mem_mapIdx.1 hp
  subst hl
  simp at hj
  refine cell_of_row W d j _ _ _ hr |>.trans ?_
  simp [hj]
theorem HT.sub {w W : World} {L M : List (Addr × Value)} {kv cv bv : Value} {K C : List Int} {B : List ByteArray} {cs : Array Value} (h : HT w L kv cv bv K C B cs W) (hM : ∀ p ∈ M, p ∈ L) : HT w M kv cv bv K C B cs W := ⟨⟨h.k.k.sub hM (fun p hp => by cases hp), h.k.s, h.k.rc⟩, h.hK, h.hC, h.hB⟩
theorem frz {W : World} {d j : Nat} {cs : Array Value} {t : TypeId} (h : W.heap[d]? = some (.cells cs t (0, 0))) : W.frozen? ⟨d, j, none⟩ = false := by rw [World.frozen?]; simp [h]
/-- the complaint's index is written -/
theorem HT.set {w W : World} {L : List (Addr × Value)} {kv cv bv : Value} {K C : List Int} {B : List ByteArray} {x y z t : Value} (h : HT w L kv cv bv K C B #[x, y, z, t] W) (u : Value) (hL : ∀ p ∈ L, p.1.block ≠ w.heap.size + 1) : HT w L kv cv bv K C B #[u, y, z, t] (W.setCell ⟨w.heap.size + 1, 0, none⟩ u) :=
  ⟨⟨⟨h.b.setCell (by show _ ≤ w.heap.size + 1; omega) u, fun p hp => by
    have := h.k.k.c p hp
    rw [World.cell?_of_block (heap_setCell_other W _ p.1.block _ (hL p hp))]; exact this, fun p hp => by cases hp⟩, by have := h.k.s; simpa using this, by rw [heap_setCell_same W _ 0 _ _ _ h.k.rc]; rfl⟩, own_set h.hK _ _ _ (by omega), own_set h.hC _ _ _ (by omega), own_set h.hB _ _ _ (by omega)⟩
structure BB (u W : World) : Prop where
  b : Below u.heap.size u W
theorem BB.next {u W V : World} (h : BB u W) (k : Below W.heap.size W V) : BB u V := ⟨h.b.trans (k.mono h.b.size)⟩
theorem BB.drew {u W : World} (h : BB u W) : BB u W.drew := ⟨h.b.drew⟩
end Go.Proofs.YtjfbpmpdcmealaaGreatDoor.D7
namespace Go.Proofs.YtjfbpmpdcmealaaGreatDoor.D7
open Go.RowKit GM SH G4 E6 D7P
theorem elem4 {w W : World} {G j : Nat} {k ky Cp Z ky1 C1 Z1 ky2 C2 Z2 ky3 : Int} {kyF CF ZF : Nat → Int} {L : List (Addr × Value)}
    (hF : (kyF 0 = ky ∧ CF 0 = Cp ∧ ZF 0 = Z) ∧ (kyF 1 = ky1 ∧ CF 1 = C1 ∧ ZF 1 = Z1) ∧ (kyF 2 = ky2 ∧ CF 2 = C2 ∧ ZF 2 = Z2) ∧ (kyF 3 = ky3 ∧ CF 3 = C2 ∧ ZF 3 = Z2)) (hj : j < 4)
    (h : CK w ([(⟨G, 0, none⟩, .int .i64 k), (⟨G, 1, none⟩, .int .i64 ky), (⟨G, 2, none⟩, .int .i64 Cp), (⟨G, 3, none⟩, .int .i64 Z), (⟨G, 4, none⟩, .int .i64 k), (⟨G, 5, none⟩, .int .i64 ky1), (⟨G, 6, none⟩, .int .i64 C1), (⟨G, 7, none⟩, .int .i64 Z1), (⟨G, 8, none⟩, .int .i64 k), (⟨G, 9, none⟩, .int .i64 ky2), (⟨G, 10, none⟩, .int .i64 C2), (⟨G, 11, none⟩, .int .i64 Z2), (⟨G, 12, none⟩, .int .i64 k), (⟨G, 13, none⟩, .int .i64 ky3), (⟨G, 14, none⟩, .int .i64 C2), (⟨G, 15, none⟩, .int .i64 Z2)] ++ L) [] W) : W.cell? ⟨G, j * 4, none⟩ = some (.int .i64 k) ∧ W.cell? ⟨G, j * 4 + 1, none⟩ = some (.int .i64 (kyF j)) ∧ W.cell? ⟨G, j * 4 + 2, none⟩ = some (.int .i64 (CF j)) ∧ W.cell? ⟨G, j * 4 + 3, none⟩ = some (.int .i64 (ZF j)) := by
  obtain ⟨⟨rfl, rfl, rfl⟩, ⟨rfl, rfl, rfl⟩, ⟨rfl, h1, h2⟩, ⟨rfl, h3, h4⟩⟩ := hF
  match j, hj with
  | 0, _ => exact ⟨h.get _ _ (by simp), h.get _ _ (by simp), h.get _ _ (by simp), h.get _ _ (by simp)⟩
  | 1, _ => exact ⟨h.get _ _ (by simp), h.get _ _ (by simp), h.get _ _ (by simp), h.get _ _ (by simp)⟩
  | 2, _ => rw [h1, h2]; exact ⟨h.get _ _ (by simp), h.get _ _ (by simp), h.get _ _ (by simp), h.get _ _ (by simp)⟩
  | 3, _ => rw [h3, h4]; exact ⟨h.get _ _ (by simp), h.get _ _ (by simp), h.get _ _ (by simp), h.get _ _ (by simp)⟩
set_option maxRecDepth 100000 in
set_option maxHeartbeats 16000000 in
theorem honest_core (w : World) (sb so n c m e k : Nat) (q : Option Addr) (sd : ByteArray) (ix ky Cp Z q0 q1 sec kk pt ky1 C1 Z1 ky2 C2 Z2 md ky3 sh : Int) (kyF CF ZF jF : Nat → Int) (rF : Nat → Bool) (K N C : List Int) (B : List ByteArray)
    (hk : k < n) (hn9 : (n : Int) ≤ 9223372036854775807) (hkK : K[k]? = some kk) (hK12 : K.length ≤ 12) (hB12 : B.length = K.length)
    (hsec : w.cell? ⟨sb, so + k, none⟩ = some (.int .i64 sec)) (hT : TS w)
    (S0 : Hid (∀ W, TS W → Calls Tryz.prog 8 #[] W fun e w' => e = .returned (.bool true) ∧ Below W.heap.size W w'))
    (K1 : Hid (∀ W, Below w.heap.size w W → Calls Tryz.prog 9 #[.agg #[.slice (some ⟨sb, so, none⟩) n c, .slice q m e, .string sd]] W (OwnQ W K)))
    (N1 : Hid (∀ W, Below w.heap.size w W → Calls Tryz.prog 10 #[.agg #[.slice (some ⟨sb, so, none⟩) n c, .slice q m e, .string sd]] W (OwnQ W N)))
    (D1 : Hid (∀ W v1 v2, Below w.heap.size w W → SL W v1 K → SL W v2 N → Calls Tryz.prog 11 #[v2, v1, .string sd] W (DealtQ W C pt B)))
    (M1 : Hid (∀ W, Calls Tryz.prog 13 #[.int .i64 q0, .int .i64 (K.length : Int)] W fun e w' => e = .returned (.int .i64 (k : Int)) ∧ w' = W))
    (C1h : Hid (∀ W cp cc bp bc, Below w.heap.size w W → Calls Tryz.prog 14 #[.int .i64 q1, .agg #[.slice cp C.length cc, .int .i64 pt, .slice bp B.length bc], .int .i64 (k : Int)] W fun e w' => e = .returned (.agg #[.int .i64 (k : Int), .int .i64 ky1, .int .i64 C1, .int .i64 Z1]) ∧ Below W.heap.size W w'))
    (C2h : Hid (∀ W cp cc bp bc, Below w.heap.size w W → Calls Tryz.prog 14 #[.int .i64 sec, .agg #[.slice cp C.length cc, .int .i64 pt, .slice bp B.length bc], .int .i64 (k : Int)] W fun e w' => e = .returned (.agg #[.int .i64 (k : Int), .int .i64 ky2, .int .i64 C2, .int .i64 Z2]) ∧ Below W.heap.size W w'))
    (Md : Hid (∀ W, Calls Tryz.prog 16 #[.int .i64 q1] W fun e w' => e = .returned (.int .i64 md) ∧ Below W.heap.size W w'))
    (Mu : Hid (∀ W, Calls Tryz.prog 15 #[.int .i64 ky2, .int .i64 md, .int .i64 2305843009213691579] W fun e w' => e = .returned (.int .i64 ky3) ∧ Below W.heap.size W w'))
    (V1 : Hid (∀ j, j < 4 → ∀ W, Below w.heap.size w W → Calls Tryz.prog 18 #[.int .i64 4, .int .i64 kk, .int .i64 pt, .int .i64 (kyF j), .agg #[.int .i64 (CF j), .int .i64 (ZF j)]] W fun e w' => e = .returned (.bool (rF j)) ∧ Below W.heap.size W w'))
    (J1 : Hid (∀ j, j < 4 → ∀ W kp kc cp cc bp bc, Below w.heap.size w W → SL W (.slice kp K.length kc) K → SL W (.slice cp C.length cc) C → ZL W (.slice bp B.length bc) B → Calls Tryz.prog 12 #[.slice kp K.length kc, .agg #[.slice cp C.length cc, .int .i64 pt, .slice bp B.length bc], .agg #[.int .i64 (k : Int), .int .i64 (kyF j), .int .i64 (CF j), .int .i64 (ZF j)]] W fun e w' => e = .returned (.int .i64 (jF j)) ∧ Below W.heap.size W w'))
    (HF : Hid (((kyF 0 = ky ∧ CF 0 = Cp ∧ ZF 0 = Z) ∧ (kyF 1 = ky1 ∧ CF 1 = C1 ∧ ZF 1 = Z1) ∧ (kyF 2 = ky2 ∧ CF 2 = C2 ∧ ZF 2 = Z2) ∧ (kyF 3 = ky3 ∧ CF 3 = C2 ∧ ZF 3 = Z2)) ∧ (∀ j, j < 4 → (kyF j = sh → jF j ≠ 1) ∧ (rF j = false → jF j ≠ 1)) ∧ jF 2 = 2))
    (Sh : Hid (∀ W cp cc bp bc, Calls Tryz.prog 17 #[.int .i64 sec, .agg #[.slice cp C.length cc, .int .i64 pt, .slice bp B.length bc]] W fun e w' => e = .returned (.int .i64 sh) ∧ Below W.heap.size W w')) :
    Calls Tryz.prog 3 #[.agg #[.slice (some ⟨sb, so, none⟩) n c, .slice q m e, .string sd], .agg #[.int .i64 ix, .int .i64 ky, .int .i64 Cp, .int .i64 Z], .agg #[.int .i64 q0, .int .i64 q1]] w fun e w' => e = .returned (.bool true) ∧ Below w.heap.size w w' := by
  obtain ⟨W, hW⟩ : ∃ W, ((w.alloc (.cells #[.slice (some ⟨sb, so, none⟩) n c, .slice q m e, .string sd] 24)).alloc (.cells #[.int .i64 ix, .int .i64 ky, .int .i64 Cp, .int .i64 Z] 28)).alloc (.cells #[.int .i64 q0, .int .i64 q1] 29) = W := ⟨_, rfl⟩
  have K0 : HB w [(⟨w.heap.size, 0, none⟩, .slice (some ⟨sb, so, none⟩) n c), (⟨w.heap.size, 1, none⟩, .slice q m e), (⟨w.heap.size, 2, none⟩, .string sd), (⟨w.heap.size + 1 + 1, 0, none⟩, .int .i64 q0), (⟨w.heap.size + 1 + 1, 1, none⟩, .int .i64 q1), (⟨sb, so + k, none⟩, .int .i64 sec)] #[.int .i64 ix, .int .i64 ky, .int .i64 Cp, .int .i64 Z] W := by
    have a1 := (CK.start w).cells #[.slice (some ⟨sb, so, none⟩) n c, .slice q m e, .string sd] 24 _ rfl
    have a2 := a1.next ((Below.refl _ _).alloc (Nat.le_refl _) (.cells #[.int .i64 ix, .int .i64 ky, .int .i64 Cp, .int .i64 Z] 28))
    have a3 := a2.cells #[.int .i64 q0, .int .i64 q1] 29 _ rfl
    have r1 := heap_alloc_new (w.alloc (.cells #[.slice (some ⟨sb, so, none⟩) n c, .slice q m e, .string sd] 24)) (.cells #[.int .i64 ix, .int .i64 ky, .int .i64 Cp, .int .i64 Z] 28)
    have s3 : w.heap.size + 3 ≤ W.heap.size := by rw [← hW]; simp
    rw [World.size_alloc] at r1
    rw [World.size_alloc, World.size_alloc] at a3
    rw [hW] at a3
    refine ⟨⟨a3.b, fun x hx => ?_, fun p hp => by cases hp⟩, s3, ?_⟩
    · simp only [List.mem_cons, List.not_mem_nil, or_false] at hx
      rcases hx with rfl | rfl | rfl | rfl | rfl | rfl
      · exact a3.c _ (by simp)
      · exact a3.c _ (by simp)
      · exact a3.c _ (by simp)
      · exact a3.c _ (by simp)
      · exact a3.c _ (by simp)
      · exact (a3.b.cell (p := ⟨sb, so + k, none⟩) (World.block_lt_of_cell? _ _ hsec)).trans hsec
    · rw [← hW]
      exact (((Below.refl _ _).alloc (Nat.le_refl _) _).block _ (by simp)).trans r1
  have HK := Lib.hid K0; clear K0
  have HT0 := Lib.hid hT
  have hsb := World.block_lt_of_cell? _ _ hsec
  replace hsb : sb < w.heap.size := hsb
  clear hT hsec
  have hkl : k < K.length := (List.getElem?_eq_some_iff.1 hkK).1
  have HKK := Lib.hid (And.intro hkK hB12); clear hkK hB12
  go_enter Tryz.func3, Tryz.ntmps3
  go_upto_region 1 with fail
  clear hW
  go_wp2_with fail
  refine (S0.out _ (HT0.out.below HK.out.b)).mono ?_
  rintro e w1 ⟨rfl, b⟩
  have H1 := Lib.hid (HK.out.next b); clear b HK S0
  go_upto_region 2 with fail
  refine wp_region_held_drew (S := HB w [(⟨w.heap.size, 0, none⟩, .slice (some ⟨sb, so, none⟩) n c), (⟨w.heap.size, 1, none⟩, .slice q m e), (⟨w.heap.size, 2, none⟩, .string sd), (⟨w.heap.size + 1 + 1, 0, none⟩, .int .i64 q0), (⟨w.heap.size + 1 + 1, 1, none⟩, .int .i64 q1), (⟨sb, so + k, none⟩, .int .i64 sec)] #[.int .i64 ix, .int .i64 ky, .int .i64 Cp, .int .i64 Z]) (by kernel_rfl) H1.out.drew (fun hS => ?_)
  clear H1
  refine wpAnyH_take (i := 0) (oi := { dst := some 20, op := Op.load 24 (Operand.tmp 3), type := 24, pos := "more.go:15", after := #[], guard := none }) (v := .agg #[.slice (some ⟨sb, so, none⟩) n c, .slice q m e, .string sd]) rfl (by kernel_rfl) (by kernel_rfl) (by kernel_rfl) (fun _ _ _ h => h) (Or.inl ⟨by rfl, ?yha0⟩) hS ?rha0
  case yha0 => (intro w' hS; have cf := (show w'.cell? ⟨w.heap.size, 0, none⟩ = some (.slice (some ⟨sb, so, none⟩) n c) ∧ w'.cell? ⟨w.heap.size, 1, none⟩ = some (.slice q m e) ∧ w'.cell? ⟨w.heap.size, 2, none⟩ = some (.string sd) from ⟨hS.get _ _ (by simp), hS.get _ _ (by simp), hS.get _ _ (by simp)⟩); go_simp; try with_reducible rfl)
  refine wpAnyH_take (i := 2) (oi := { dst := some 22, op := Op.load 24 (Operand.tmp 3), type := 24, pos := "more.go:15", after := #[], guard := none }) (v := .agg #[.slice (some ⟨sb, so, none⟩) n c, .slice q m e, .string sd]) rfl (by kernel_rfl) (by kernel_rfl) (by kernel_rfl) (fun _ _ _ h => h) (Or.inl ⟨by rfl, ?yha2⟩) hS ?rha2
  case yha2 => (intro w' hS; have cf := (show w'.cell? ⟨w.heap.size, 0, none⟩ = some (.slice (some ⟨sb, so, none⟩) n c) ∧ w'.cell? ⟨w.heap.size, 1, none⟩ = some (.slice q m e) ∧ w'.cell? ⟨w.heap.size, 2, none⟩ = some (.string sd) from ⟨hS.get _ _ (by simp), hS.get _ _ (by simp), hS.get _ _ (by simp)⟩); go_simp; try with_reducible rfl)
  go_simp
  refine wpAnyH_ready (rs := [1]) (by kernel_rfl) (by simp) ?_
  refine AllReadyH.cons (o := { dst := some 21, op := Op.call { callee := Callee.value (Operand.func 9), args := #[Operand.tmp 20], argTypes := #[24] }, type := 22, pos := "more.go:15", after := #[{ on := 0, ground := Ground.data }], guard := none }) rfl (fun K hK => ?_) AllReadyH.nil
  go_simp
  go_at_call 9
  refine (K1.out _ hS.b).mono ?_
  rintro e w' ⟨v1, rfl, o1, b⟩
  have o1 := own_base o1 hS.s
  have hS2 := hS.next b
  clear b hS
  try go_simp
  refine hK.out _ _ hS2 (fun hS => ?_)
  clear hK K hS2
  refine wpAnyH_ready (rs := [3]) (by kernel_rfl) (by simp) ?_
  refine AllReadyH.cons (o := { dst := some 23, op := Op.call { callee := Callee.value (Operand.func 10), args := #[Operand.tmp 22], argTypes := #[24] }, type := 22, pos := "more.go:15", after := #[{ on := 2, ground := Ground.data }, { on := 1, ground := Ground.chain }], guard := none }) rfl (fun K hK => ?_) AllReadyH.nil
  go_simp
  go_at_call 10
  refine (N1.out _ hS.b).mono ?_
  rintro e w' ⟨v2, rfl, o2, b⟩
  have o2 := own_base o2 hS.s; have o1 := own_below o1 b
  have hS2 := hS.next b
  clear b hS
  try go_simp
  refine hK.out _ _ hS2 (fun hS => ?_)
  clear hK K hS2
  refine wpAnyH_take (i := 4) (oi := { dst := some 8, op := Op.assign (Operand.tmp 21), type := 22, pos := "more.go:15", after := #[{ on := 1, ground := Ground.data }, { on := 3, ground := Ground.chain }, { on := 0, ground := Ground.phase }, { on := 1, ground := Ground.phase }, { on := 2, ground := Ground.textOnly Departure.lateStores }, { on := 3, ground := Ground.textOnly Departure.lateStoresUnsure }], guard := none }) (v := ?vha4) rfl (by kernel_rfl) (by kernel_rfl) (by kernel_rfl) (fun _ _ _ h => h) (Or.inl ⟨by rfl, ?yha4⟩) hS ?rha4
  case yha4 => (intro w hS; go_simp; try with_reducible rfl)
  go_simp
  refine wpAnyH_take (i := 5) (oi := { dst := some 9, op := Op.assign (Operand.tmp 23), type := 22, pos := "more.go:15", after := #[{ on := 3, ground := Ground.data }, { on := 4, ground := Ground.chain }, { on := 0, ground := Ground.phase }, { on := 1, ground := Ground.phase }, { on := 2, ground := Ground.phase }, { on := 3, ground := Ground.phase }, { on := 4, ground := Ground.phase }], guard := none }) (v := ?vha5) rfl (by kernel_rfl) (by kernel_rfl) (by kernel_rfl) (fun _ _ _ h => h) (Or.inl ⟨by rfl, ?yha5⟩) hS ?rha5
  case yha5 => (intro w hS; go_simp; try with_reducible rfl)
  refine wpAnyH_done (by kernel_rfl) ?_ _
  have H2 := Lib.hid hS; clear hS
  have O1 := Lib.hid o1; clear o1
  have O2 := Lib.hid o2; clear o2
  try dsimp only [Act.put]
  have p2 := H2.out.get ⟨w.heap.size, 2, none⟩ (.string sd) (by simp)
  go_wp2_with fail
  refine (D1.out _ _ _ H2.out.b (own_VL O1.out) (own_VL O2.out)).mono ?_
  rintro e w3 ⟨cv, bv, rfl, oc, ob, _, b⟩
  replace oc := own_base oc H2.out.s
  replace ob := own_base ob H2.out.s
  have H3 := Lib.hid (show HT w _ v1 cv bv K C B _ w3 from ⟨H2.out.next b, own_below O1.out b, oc, ob⟩); clear b oc ob H2 O1 O2 p2 D1
  obtain ⟨kp, kc, rfl⟩ := own_nil _ H3.out.hK
  obtain ⟨cp, cc, rfl⟩ := own_nil _ H3.out.hC
  obtain ⟨bp, bc, rfl⟩ := own_nil _ H3.out.hB
  obtain ⟨kp', kc', e1, hkc⟩ := own_VL H3.out.hK
  injection e1 with e2 e3 e4
  subst e2 e4
  obtain ⟨kb, ko, rfl, hkk⟩ := hkc k (.int .i64 kk) (by rw [List.getElem?_map, HKK.out.1]; rfl)
  have hkb := (H3.out.hK.lt kb rfl).1
  have hDl := H3.out.k.s
  clear e3 hkc
  go_upto_region 4 with fail
  have H4 := H3.out.cells #[.slice cp C.length cc, .int .i64 pt, .slice bp B.length bc] 34 _ rfl
  have hkk4 := (((Below.refl w3.heap.size w3).alloc (Nat.le_refl _) (.cells #[.slice cp C.length cc, .int .i64 pt, .slice bp B.length bc] 34)).cell (p := ⟨kb, ko + k, none⟩) (World.block_lt_of_cell? _ _ hkk)).trans hkk
  obtain ⟨D, hD⟩ : ∃ D, w3.heap.size = D := ⟨_, rfl⟩
  obtain ⟨W4, hW4⟩ : ∃ W4, w3.alloc (.cells #[.slice cp C.length cc, .int .i64 pt, .slice bp B.length bc] 34) = W4 := ⟨_, rfl⟩
  rw [hW4] at H4 hkk4 ⊢
  rw [hD] at H4 hDl ⊢
  replace H4 := Lib.hid ((H4.add [(⟨kb, ko + k, none⟩, .int .i64 kk)] (by simp; exact hkk4)).sub (M := [(⟨D, 0, none⟩, .slice cp C.length cc), (⟨D, 1, none⟩, .int .i64 pt), (⟨D, 2, none⟩, .slice bp B.length bc), (⟨kb, ko + k, none⟩, .int .i64 kk), (⟨w.heap.size, 0, none⟩, .slice (some ⟨sb, so, none⟩) n c), (⟨w.heap.size, 1, none⟩, .slice q m e), (⟨w.heap.size, 2, none⟩, .string sd), (⟨w.heap.size + 1 + 1, 0, none⟩, .int .i64 q0), (⟨w.heap.size + 1 + 1, 1, none⟩, .int .i64 q1), (⟨sb, so + k, none⟩, .int .i64 sec)]) (by simp))
  clear H3 hkk hkk4 hD hW4
  have p1 := H4.out.get ⟨w.heap.size + 1 + 1, 0, none⟩ (.int .i64 q0) (by simp)
  have p2 := H4.out.get ⟨w.heap.size + 1 + 1, 1, none⟩ (.int .i64 q1) (by simp)
  have d0 := H4.out.get ⟨D, 0, none⟩ (.slice cp C.length cc) (by simp)
  have d1 := H4.out.get ⟨D, 1, none⟩ (.int .i64 pt) (by simp)
  have d2 := H4.out.get ⟨D, 2, none⟩ (.slice bp B.length bc) (by simp)
  go_wp2_with fail
  refine (M1.out _).mono ?_
  rintro e w4 ⟨rfl, rfl⟩
  clear p1 M1
  go_wp2_with fail
  refine (C1h.out _ _ _ _ _ H4.out.b).mono ?_
  rintro e w5 ⟨rfl, b⟩
  have H5 := Lib.hid (H4.out.next b); clear b H4 p2 d0 d1 d2 C1h
  go_upto_region 8 with fail
  have hAl := H5.out.k.s
  have H7 := H5.out.cells #[.int .i64 (k : Int), .int .i64 ky1, .int .i64 C1, .int .i64 Z1] 28 _ rfl
  obtain ⟨A, hA⟩ : ∃ A, w5.heap.size = A := ⟨_, rfl⟩
  obtain ⟨W7, hW7⟩ : ∃ W7, w5.alloc (.cells #[.int .i64 (k : Int), .int .i64 ky1, .int .i64 C1, .int .i64 Z1] 28) = W7 := ⟨_, rfl⟩
  rw [hW7] at H7 ⊢
  rw [hA] at H7 hAl ⊢
  have HN := Lib.hid (And.intro hsb (And.intro hkb (And.intro hDl hAl))); clear hsb hkb hDl hAl
  replace H7 := Lib.hid (H7.sub (M := [(⟨A, 0, none⟩, .int .i64 (k : Int)), (⟨A, 1, none⟩, .int .i64 ky1), (⟨A, 2, none⟩, .int .i64 C1), (⟨A, 3, none⟩, .int .i64 Z1), (⟨D, 0, none⟩, .slice cp C.length cc), (⟨D, 1, none⟩, .int .i64 pt), (⟨D, 2, none⟩, .slice bp B.length bc), (⟨kb, ko + k, none⟩, .int .i64 kk), (⟨w.heap.size, 0, none⟩, .slice (some ⟨sb, so, none⟩) n c), (⟨w.heap.size, 1, none⟩, .slice q m e), (⟨w.heap.size, 2, none⟩, .string sd), (⟨w.heap.size + 1 + 1, 0, none⟩, .int .i64 q0), (⟨w.heap.size + 1 + 1, 1, none⟩, .int .i64 q1), (⟨sb, so + k, none⟩, .int .i64 sec)]) (by simp))
  clear H5 hA hW7
  refine wp_region_held_drew (S := HT w [(⟨A, 0, none⟩, .int .i64 (k : Int)), (⟨A, 1, none⟩, .int .i64 ky1), (⟨A, 2, none⟩, .int .i64 C1), (⟨A, 3, none⟩, .int .i64 Z1), (⟨D, 0, none⟩, .slice cp C.length cc), (⟨D, 1, none⟩, .int .i64 pt), (⟨D, 2, none⟩, .slice bp B.length bc), (⟨kb, ko + k, none⟩, .int .i64 kk), (⟨w.heap.size, 0, none⟩, .slice (some ⟨sb, so, none⟩) n c), (⟨w.heap.size, 1, none⟩, .slice q m e), (⟨w.heap.size, 2, none⟩, .string sd), (⟨w.heap.size + 1 + 1, 0, none⟩, .int .i64 q0), (⟨w.heap.size + 1 + 1, 1, none⟩, .int .i64 q1), (⟨sb, so + k, none⟩, .int .i64 sec)] (.slice (some ⟨kb, ko, none⟩) K.length kc) (.slice cp C.length cc) (.slice bp B.length bc) K C B #[.int .i64 ix, .int .i64 ky, .int .i64 Cp, .int .i64 Z]) (by kernel_rfl) H7.out.drew (fun hS => ?_)
  refine wpAnyH_take (i := 0) (oi := { dst := some 52, op := Op.fieldAddr 24 (Operand.tmp 3) 0, type := 0, pos := "more.go:22", after := #[], guard := none }) (v := ?vhb0) rfl (by kernel_rfl) (by kernel_rfl) (by kernel_rfl) (fun _ _ _ h => h) (Or.inl ⟨by rfl, ?yhb0⟩) hS ?rhb0
  case yhb0 => (intro w hS; go_simp; try with_reducible rfl)
  refine wpAnyH_take (i := 2) (oi := { dst := some 54, op := Op.move (Operand.tmp 12), type := 3, pos := "more.go:22", after := #[], guard := none }) (v := ?vhb2) rfl (by kernel_rfl) (by kernel_rfl) (by kernel_rfl) (fun _ _ _ h => h) (Or.inl ⟨by rfl, ?yhb2⟩) hS ?rhb2
  case yhb2 => (intro w hS; go_simp; try with_reducible rfl)
  refine wpAnyH_take (i := 5) (oi := { dst := some 57, op := Op.load 34 (Operand.tmp 10), type := 34, pos := "more.go:22", after := #[], guard := none }) (v := .agg #[.slice cp C.length cc, .int .i64 pt, .slice bp B.length bc]) rfl (by kernel_rfl) (by kernel_rfl) (by kernel_rfl) (fun _ _ _ h => h) (Or.inl ⟨by rfl, ?yhb5⟩) hS ?rhb5
  case yhb5 => (intro w' hS; have cf := (show w'.cell? ⟨D, 0, none⟩ = some (.slice cp C.length cc) ∧ w'.cell? ⟨D, 1, none⟩ = some (.int .i64 pt) ∧ w'.cell? ⟨D, 2, none⟩ = some (.slice bp B.length bc) from ⟨hS.get _ _ (by simp), hS.get _ _ (by simp), hS.get _ _ (by simp)⟩); go_simp; try with_reducible rfl)
  refine wpAnyH_take (i := 6) (oi := { dst := some 58, op := Op.move (Operand.tmp 12), type := 3, pos := "more.go:22", after := #[], guard := none }) (v := ?vhb6) rfl (by kernel_rfl) (by kernel_rfl) (by kernel_rfl) (fun _ _ _ h => h) (Or.inl ⟨by rfl, ?yhb6⟩) hS ?rhb6
  case yhb6 => (intro w hS; go_simp; try with_reducible rfl)
  go_simp
  refine wpAnyH_take (i := 1) (oi := { dst := some 53, op := Op.load 22 (Operand.tmp 52), type := 22, pos := "more.go:22", after := #[{ on := 0, ground := Ground.data }], guard := none }) (v := .slice (some ⟨sb, so, none⟩) n c) rfl (by kernel_rfl) (by kernel_rfl) (by kernel_rfl) (fun _ _ _ h => h) (Or.inl ⟨by rfl, ?yhb1⟩) hS ?rhb1
  case yhb1 => (intro w' hS; have cf := hS.get ⟨w.heap.size, 0, none⟩ (.slice (some ⟨sb, so, none⟩) n c) (by simp); go_simp; try with_reducible rfl)
  go_simp
  refine wpAnyH_take (i := 3) (oi := { dst := some 55, op := Op.indexAddr 22 (Operand.tmp 53) (Operand.tmp 54), type := 0, pos := "more.go:22", after := #[{ on := 1, ground := Ground.data }, { on := 2, ground := Ground.data }], guard := none }) (v := ?vhb3) rfl (by kernel_rfl) (by kernel_rfl) (by kernel_rfl) (fun _ _ _ h => h) (Or.inl ⟨by rfl, ?yhb3⟩) hS ?rhb3
  case yhb3 => (intro w hS; go_simp; try with_reducible rfl)
  go_simp
  refine wpAnyH_take (i := 4) (oi := { dst := some 56, op := Op.load 3 (Operand.tmp 55), type := 3, pos := "more.go:22", after := #[{ on := 3, ground := Ground.data }], guard := none }) (v := .int .i64 sec) rfl (by kernel_rfl) (by kernel_rfl) (by kernel_rfl) (fun _ _ _ h => h) (Or.inl ⟨by rfl, ?yhb4⟩) hS ?rhb4
  case yhb4 => (intro w' hS; have cf := hS.get ⟨sb, so + k, none⟩ (.int .i64 sec) (by simp); go_simp; try with_reducible rfl)
  go_simp
  refine wpAnyH_ready (rs := [7, 8]) (by kernel_rfl) (by simp) ?_
  refine AllReadyH.cons (o := { dst := some 59, op := Op.call { callee := Callee.value (Operand.func 14), args := #[Operand.tmp 56, Operand.tmp 57, Operand.tmp 58], argTypes := #[3, 34, 3] }, type := 28, pos := "more.go:22", after := #[{ on := 4, ground := Ground.data }, { on := 5, ground := Ground.data }, { on := 6, ground := Ground.data }], guard := none }) rfl (fun Ka hKa => ?_) (AllReadyH.cons (o := { dst := some 14, op := Op.alloc 28, type := 0, pos := "more.go:22", after := #[], guard := none }) rfl (fun Kb hKb => ?_) AllReadyH.nil)
  · skip
    go_simp
    go_at_call 14
    refine (C2h.out _ _ _ _ _ hS.b).mono ?_
    rintro e w' ⟨rfl, b⟩
    have hS2 := hS.next b
    try go_simp
    clear hS
    refine hKa.out _ _ hS2 (fun hS => ?_)
    clear hKa Ka hS2 b
    refine wpAnyH_ready (rs := [8]) (by kernel_rfl) (by simp) ?_
    refine AllReadyH.cons (o := { dst := some 14, op := Op.alloc 28, type := 0, pos := "more.go:22", after := #[], guard := none }) rfl (fun Kb hKb => ?_) AllReadyH.nil
    go_simp
    have HX := Lib.hid hS.k.s
    have hrow := heap_alloc_new w' (.cells #[.int .i64 0, .int .i64 0, .int .i64 0, .int .i64 0] 28)
    have hS2 := hS.next ((Below.refl _ w').alloc (Nat.le_refl _) (.cells #[.int .i64 0, .int .i64 0, .int .i64 0, .int .i64 0] 28))
    refine hKb.out _ _ hS2 (fun _ => ?_)
    clear hKb Kb hS2
    refine wpAnyH_ready (rs := [9]) (by kernel_rfl) (by simp) ?_
    refine AllReadyH.cons (o := { dst := none, op := Op.store 28 (Operand.tmp 14) (Operand.tmp 59), type := 0, pos := "more.go:22", after := #[{ on := 8, ground := Ground.data }, { on := 7, ground := Ground.data }, { on := 7, ground := Ground.chain }, { on := 0, ground := Ground.phase }, { on := 1, ground := Ground.phase }, { on := 2, ground := Ground.phase }, { on := 3, ground := Ground.phase }, { on := 4, ground := Ground.phase }, { on := 5, ground := Ground.phase }, { on := 6, ground := Ground.phase }, { on := 7, ground := Ground.phase }, { on := 8, ground := Ground.phase }], guard := none }) rfl (fun K9 hK9 => ?_) AllReadyH.nil
    rw [if_pos (by rfl)]
    refine wp_store_row 28 (.tmp 14) (.tmp 59) rfl w'.heap.size (#[.int .i64 (k : Int), .int .i64 ky2, .int .i64 C2, .int .i64 Z2]) (by first | rfl | (simp [Act.eval])) (by first | rfl | (simp [Act.eval])) 28 _ hrow (infoC _ _ _ _).out (four_sz _ _ _ _ rfl) (co_one _ _ _ _) ?_
    have hrow2 := setRow_heap _ _ _ (#[.int .i64 (k : Int), .int .i64 ky2, .int .i64 C2, .int .i64 Z2]) _ _ hrow
    clear hrow
    have hS2 := hS.next (Below.setRow' ((Below.refl _ w').alloc (Nat.le_refl _) (.cells #[.int .i64 0, .int .i64 0, .int .i64 0, .int .i64 0] 28)) (Nat.le_refl w'.heap.size) (#[.int .i64 (k : Int), .int .i64 ky2, .int .i64 C2, .int .i64 Z2]))
    clear hS
    refine hK9.out _ _ hS2 (fun hS => ?_)
    clear hK9 K9 hS2
    obtain ⟨X, hX⟩ : ∃ X, w'.heap.size = X := ⟨_, rfl⟩
    obtain ⟨W8, hW8⟩ : ∃ W8, (w'.alloc (.cells #[.int .i64 0, .int .i64 0, .int .i64 0, .int .i64 0] 28)).setRow w'.heap.size (#[.int .i64 (k : Int), .int .i64 ky2, .int .i64 C2, .int .i64 Z2]) = W8 := ⟨_, rfl⟩
    rw [hW8] at hS hrow2 ⊢
    rw [hX] at hrow2 HX ⊢
    clear hX hW8

    refine wpAnyH_done (by kernel_rfl) ?_ _
    have H8 := Lib.hid ((hS.rows X _ 28 _ rfl hrow2).sub (M := [(⟨X, 0, none⟩, .int .i64 (k : Int)), (⟨X, 1, none⟩, .int .i64 ky2), (⟨X, 2, none⟩, .int .i64 C2), (⟨X, 3, none⟩, .int .i64 Z2), (⟨A, 0, none⟩, .int .i64 (k : Int)), (⟨A, 1, none⟩, .int .i64 ky1), (⟨A, 2, none⟩, .int .i64 C1), (⟨A, 3, none⟩, .int .i64 Z1), (⟨D, 0, none⟩, .slice cp C.length cc), (⟨D, 1, none⟩, .int .i64 pt), (⟨D, 2, none⟩, .slice bp B.length bc), (⟨kb, ko + k, none⟩, .int .i64 kk), (⟨w.heap.size, 0, none⟩, .slice (some ⟨sb, so, none⟩) n c), (⟨w.heap.size, 1, none⟩, .slice q m e), (⟨w.heap.size, 2, none⟩, .string sd), (⟨w.heap.size + 1 + 1, 0, none⟩, .int .i64 q0), (⟨w.heap.size + 1 + 1, 1, none⟩, .int .i64 q1), (⟨sb, so + k, none⟩, .int .i64 sec)]) (by simp)); clear hS hrow2 H7
    have x0 := H8.out.get ⟨X, 0, none⟩ (.int .i64 (k : Int)) (by simp)
    have x1 := H8.out.get ⟨X, 1, none⟩ (.int .i64 ky2) (by simp)
    have x2 := H8.out.get ⟨X, 2, none⟩ (.int .i64 C2) (by simp)
    have x3 := H8.out.get ⟨X, 3, none⟩ (.int .i64 Z2) (by simp)
    try dsimp only [Act.put]
    go_upto_region 10 with fail
    clear x0 x1 x2 x3
    have hrow := heap_alloc_new W8 (.cells #[.int .i64 (k : Int), .int .i64 ky2, .int .i64 C2, .int .i64 Z2] 28)
    have hY := (Array.getElem?_eq_some_iff.1 hrow).1
    have b9 := (Below.refl W8.heap.size W8).alloc (Nat.le_refl _) (.cells #[.int .i64 (k : Int), .int .i64 ky2, .int .i64 C2, .int .i64 Z2] 28)
    obtain ⟨Y, eY⟩ : ∃ Y, W8.heap.size = Y := ⟨_, rfl⟩
    have hY8 : W8.heap.size ≤ Y := Nat.le_of_eq eY
    have HY := Lib.hid (Nat.le_trans H8.out.k.s hY8)
    obtain ⟨W9, eW⟩ : ∃ W9, W8.alloc (.cells #[.int .i64 (k : Int), .int .i64 ky2, .int .i64 C2, .int .i64 Z2] 28) = W9 := ⟨_, rfl⟩
    rw [eW] at hrow b9 hY ⊢
    rw [eY] at hrow hY ⊢
    clear eY eW
    have hS0 : BB W8 W9.drew := ⟨b9.drew⟩
    clear b9 hY
    replace hrow : W9.drew.heap[Y]? = _ := hrow
    refine wp_region_held_drew (S := BB W8) (by kernel_rfl) hS0 (fun hS => ?_)
    clear hS0
    refine wpAnyH_take (i := 0) (oi := { dst := some 61, op := Op.fieldAddr 28 (Operand.tmp 14) 1, type := 0, pos := "more.go:24", after := #[], guard := none }) (v := ?vhc0) rfl (by kernel_rfl) (by kernel_rfl) (by kernel_rfl) (fun _ _ _ h => h) (Or.inl ⟨by rfl, ?yhc0⟩) hS ?rhc0
    case yhc0 => (intro w hS; go_simp; try with_reducible rfl)
    refine wpAnyH_take (i := 2) (oi := { dst := some 63, op := Op.indexAddr 29 (Operand.tmp 5) (Operand.const (Value.int IntKind.i64 1)), type := 0, pos := "more.go:24", after := #[], guard := none }) (v := ?vhc2) rfl (by kernel_rfl) (by kernel_rfl) (by kernel_rfl) (fun _ _ _ h => h) (Or.inl ⟨by rfl, ?yhc2⟩) hS ?rhc2
    case yhc2 => (intro w hS; go_simp; try with_reducible rfl)
    go_simp
    refine wpAnyH_take (i := 1) (oi := { dst := some 62, op := Op.load 3 (Operand.tmp 61), type := 3, pos := "more.go:24", after := #[{ on := 0, ground := Ground.data }], guard := none }) (v := .int .i64 ky2) rfl (by kernel_rfl) (by kernel_rfl) (by kernel_rfl) (fun _ _ _ h => h) (Or.inl ⟨by rfl, ?yhc1⟩) hS ?rhc1
    case yhc1 => (intro w' hS; have cf := (H8.out.next hS.b).get ⟨X, 1, none⟩ (.int .i64 ky2) (by simp); go_simp; try with_reducible rfl)
    refine wpAnyH_take (i := 3) (oi := { dst := some 64, op := Op.load 3 (Operand.tmp 63), type := 3, pos := "more.go:24", after := #[{ on := 2, ground := Ground.data }], guard := none }) (v := .int .i64 q1) rfl (by kernel_rfl) (by kernel_rfl) (by kernel_rfl) (fun _ _ _ h => h) (Or.inl ⟨by rfl, ?yhc3⟩) hS ?rhc3
    case yhc3 => (intro w' hS; have cf := (H8.out.next hS.b).get ⟨w.heap.size + 1 + 1, 1, none⟩ (.int .i64 q1) (by simp); go_simp; try with_reducible rfl)
    go_simp
    refine wpAnyH_ready (rs := [4]) (by kernel_rfl) (by simp) ?_
    refine AllReadyH.cons (o := { dst := some 65, op := Op.call { callee := Callee.value (Operand.func 16), args := #[Operand.tmp 64], argTypes := #[3] }, type := 3, pos := "more.go:24", after := #[{ on := 3, ground := Ground.data }], guard := none }) rfl (fun K hK => ?_) AllReadyH.nil
    go_simp
    go_at_call 16
    refine (Md.out _).mono ?_
    rintro e w' ⟨rfl, b⟩
    replace hrow := (b.block _ (Array.getElem?_eq_some_iff.1 hrow).1).trans hrow
    have hS2 := hS.next b
    clear b hS
    try go_simp
    refine hK.out _ _ hS2 (fun hS => ?_)
    clear hK K hS2
    refine wpAnyH_ready (rs := [5]) (by kernel_rfl) (by simp) ?_
    refine AllReadyH.cons (o := { dst := some 66, op := Op.call { callee := Callee.value (Operand.func 15), args := #[Operand.tmp 62, Operand.tmp 65, Operand.const (Value.int IntKind.i64 2305843009213691579)], argTypes := #[3, 3, 3] }, type := 3, pos := "more.go:24", after := #[{ on := 1, ground := Ground.data }, { on := 4, ground := Ground.data }, { on := 4, ground := Ground.chain }], guard := none }) rfl (fun K hK => ?_) AllReadyH.nil
    go_simp
    go_at_call 15
    refine (Mu.out _).mono ?_
    rintro e w' ⟨rfl, b⟩
    replace hrow := (b.block _ (Array.getElem?_eq_some_iff.1 hrow).1).trans hrow
    have hS2 := hS.next b
    clear b hS
    try go_simp
    refine hK.out _ _ hS2 (fun hS => ?_)
    clear hK K hS2
    refine wpAnyH_take (i := 6) (oi := { dst := some 67, op := Op.fieldAddr 28 (Operand.tmp 15) 1, type := 0, pos := "more.go:24", after := #[{ on := 0, ground := Ground.phase }, { on := 1, ground := Ground.phase }, { on := 2, ground := Ground.phase }, { on := 3, ground := Ground.phase }, { on := 4, ground := Ground.phase }, { on := 5, ground := Ground.phase }], guard := none }) (v := ?vhc6) rfl (by kernel_rfl) (by kernel_rfl) (by kernel_rfl) (fun _ _ _ h => h) (Or.inl ⟨by rfl, ?yhc6⟩) hS ?rhc6
    case yhc6 => (intro w hS; go_simp; try with_reducible rfl)
    go_simp
    refine wpAnyH_ready (rs := [7]) (by kernel_rfl) (by simp) ?_
    refine AllReadyH.cons (o := { dst := none, op := Op.store 3 (Operand.tmp 67) (Operand.tmp 66), type := 0, pos := "more.go:24", after := #[{ on := 6, ground := Ground.data }, { on := 5, ground := Ground.data }, { on := 5, ground := Ground.chain }, { on := 0, ground := Ground.phase }, { on := 1, ground := Ground.phase }, { on := 2, ground := Ground.phase }, { on := 3, ground := Ground.phase }, { on := 4, ground := Ground.phase }, { on := 5, ground := Ground.phase }], guard := none }) rfl (fun K hK => ?_) AllReadyH.nil
    have cY := cell_of_row _ Y 1 _ _ _ hrow
    have fY := frz (j := 1) hrow
    go_simp
    have hrow2 := heap_setCell_same _ Y 1 _ _ (.int .i64 ky3) hrow
    have hS2 := BB.mk (hS.b.setCell (p := ⟨Y, 1, none⟩) (by show _ ≤ Y; omega) (.int .i64 ky3))
    clear hS cY fY hrow
    refine hK.out _ _ hS2 (fun hS => ?_)
    clear hK K hS2
    refine wpAnyH_done (by kernel_rfl) ?_ _
    have H10 := Lib.hid (((H8.out.next hS.b).rows Y _ 28 [Value.int .i64 (k : Int), Value.int .i64 ky3, Value.int .i64 C2, Value.int .i64 Z2] rfl hrow2).sub (M := [(⟨Y, 0, none⟩, .int .i64 (k : Int)), (⟨Y, 1, none⟩, .int .i64 ky3), (⟨Y, 2, none⟩, .int .i64 C2), (⟨Y, 3, none⟩, .int .i64 Z2), (⟨X, 0, none⟩, .int .i64 (k : Int)), (⟨X, 1, none⟩, .int .i64 ky2), (⟨X, 2, none⟩, .int .i64 C2), (⟨X, 3, none⟩, .int .i64 Z2), (⟨A, 0, none⟩, .int .i64 (k : Int)), (⟨A, 1, none⟩, .int .i64 ky1), (⟨A, 2, none⟩, .int .i64 C1), (⟨A, 3, none⟩, .int .i64 Z1), (⟨D, 0, none⟩, .slice cp C.length cc), (⟨D, 1, none⟩, .int .i64 pt), (⟨D, 2, none⟩, .slice bp B.length bc), (⟨kb, ko + k, none⟩, .int .i64 kk), (⟨w.heap.size, 0, none⟩, .slice (some ⟨sb, so, none⟩) n c), (⟨w.heap.size, 1, none⟩, .slice q m e), (⟨w.heap.size, 2, none⟩, .string sd), (⟨w.heap.size + 1 + 1, 0, none⟩, .int .i64 q0), (⟨w.heap.size + 1 + 1, 1, none⟩, .int .i64 q1), (⟨sb, so + k, none⟩, .int .i64 sec)]) (by simp)); clear hS hrow2 H8
    try dsimp only [Act.put]
    go_upto_region 11 with fail
    obtain ⟨W10, hW10⟩ : ∃ V, w'.setCell ⟨Y, 1, none⟩ (.int .i64 ky3) = V := ⟨_, rfl⟩
    rw [hW10] at H10 ⊢
    clear hW10
    have c0 := cell_of_row _ (w.heap.size + 1) 0 _ _ _ H10.out.k.rc
    have f0 := frz (j := 0) H10.out.k.rc
    go_upto_region 12 with fail
    have H11 := Lib.hid (H10.out.set (.int .i64 (k : Int)) (fun x hx => by
      have a1 := HN.out
      have a2 := HX.out
      have a3 := HY.out
      simp only [List.mem_cons, List.not_mem_nil, or_false] at hx
      rcases hx with rfl | rfl | rfl | rfl | rfl | rfl | rfl | rfl | rfl | rfl | rfl | rfl | rfl | rfl | rfl | rfl | rfl | rfl | rfl | rfl | rfl | rfl <;> (simp only [ne_eq]; omega)))
    clear c0 f0 H10 HX HY
    obtain ⟨W11, hW11⟩ : ∃ V, W10.setCell ⟨w.heap.size + 1, 0, none⟩ (.int .i64 (k : Int)) = V := ⟨_, rfl⟩
    rw [hW11] at H11 ⊢
    clear hW11
    have c0 := cell_of_row _ (w.heap.size + 1) 0 _ _ _ H11.out.k.rc
    have c1 := cell_of_row _ (w.heap.size + 1) 1 _ _ _ H11.out.k.rc
    have c2 := cell_of_row _ (w.heap.size + 1) 2 _ _ _ H11.out.k.rc
    have c3 := cell_of_row _ (w.heap.size + 1) 3 _ _ _ H11.out.k.rc
    have A0 := H11.out.get ⟨A, 0, none⟩ (.int .i64 (k : Int)) (by simp)
    have A1 := H11.out.get ⟨A, 1, none⟩ (.int .i64 ky1) (by simp)
    have A2 := H11.out.get ⟨A, 2, none⟩ (.int .i64 C1) (by simp)
    have A3 := H11.out.get ⟨A, 3, none⟩ (.int .i64 Z1) (by simp)
    have X0 := H11.out.get ⟨X, 0, none⟩ (.int .i64 (k : Int)) (by simp)
    have X1 := H11.out.get ⟨X, 1, none⟩ (.int .i64 ky2) (by simp)
    have X2 := H11.out.get ⟨X, 2, none⟩ (.int .i64 C2) (by simp)
    have X3 := H11.out.get ⟨X, 3, none⟩ (.int .i64 Z2) (by simp)
    have Y0 := H11.out.get ⟨Y, 0, none⟩ (.int .i64 (k : Int)) (by simp)
    have Y1 := H11.out.get ⟨Y, 1, none⟩ (.int .i64 ky3) (by simp)
    have Y2 := H11.out.get ⟨Y, 2, none⟩ (.int .i64 C2) (by simp)
    have Y3 := H11.out.get ⟨Y, 3, none⟩ (.int .i64 Z2) (by simp)
    go_wp2_with fail
    clear c0 c1 c2 c3 A0 A1 A2 A3 X0 X1 X2 X3 Y0 Y1 Y2 Y3
    have H12 := H11.out.cells #[.int .i64 (k : Int), .int .i64 ky, .int .i64 Cp, .int .i64 Z, .int .i64 (k : Int), .int .i64 ky1, .int .i64 C1, .int .i64 Z1, .int .i64 (k : Int), .int .i64 ky2, .int .i64 C2, .int .i64 Z2, .int .i64 (k : Int), .int .i64 ky3, .int .i64 C2, .int .i64 Z2] 28 _ rfl
    obtain ⟨G, hG⟩ : ∃ G, W11.heap.size = G := ⟨_, rfl⟩
    obtain ⟨W12, hW12⟩ : ∃ V, W11.alloc (.cells #[.int .i64 (k : Int), .int .i64 ky, .int .i64 Cp, .int .i64 Z, .int .i64 (k : Int), .int .i64 ky1, .int .i64 C1, .int .i64 Z1, .int .i64 (k : Int), .int .i64 ky2, .int .i64 C2, .int .i64 Z2, .int .i64 (k : Int), .int .i64 ky3, .int .i64 C2, .int .i64 Z2] 28) = V := ⟨_, rfl⟩
    rw [hW12] at H12 ⊢
    rw [hG] at H12 ⊢
    replace H12 := Lib.hid (H12.sub (M := [(⟨G, 0, none⟩, .int .i64 (k : Int)), (⟨G, 1, none⟩, .int .i64 ky), (⟨G, 2, none⟩, .int .i64 Cp), (⟨G, 3, none⟩, .int .i64 Z), (⟨G, 4, none⟩, .int .i64 (k : Int)), (⟨G, 5, none⟩, .int .i64 ky1), (⟨G, 6, none⟩, .int .i64 C1), (⟨G, 7, none⟩, .int .i64 Z1), (⟨G, 8, none⟩, .int .i64 (k : Int)), (⟨G, 9, none⟩, .int .i64 ky2), (⟨G, 10, none⟩, .int .i64 C2), (⟨G, 11, none⟩, .int .i64 Z2), (⟨G, 12, none⟩, .int .i64 (k : Int)), (⟨G, 13, none⟩, .int .i64 ky3), (⟨G, 14, none⟩, .int .i64 C2), (⟨G, 15, none⟩, .int .i64 Z2), (⟨X, 0, none⟩, .int .i64 (k : Int)), (⟨X, 1, none⟩, .int .i64 ky2), (⟨X, 2, none⟩, .int .i64 C2), (⟨X, 3, none⟩, .int .i64 Z2), (⟨D, 0, none⟩, .slice cp C.length cc), (⟨D, 1, none⟩, .int .i64 pt), (⟨D, 2, none⟩, .slice bp B.length bc), (⟨kb, ko + k, none⟩, .int .i64 kk), (⟨w.heap.size, 0, none⟩, .slice (some ⟨sb, so, none⟩) n c), (⟨w.heap.size, 1, none⟩, .slice q m e), (⟨w.heap.size, 2, none⟩, .string sd), (⟨w.heap.size + 1 + 1, 0, none⟩, .int .i64 q0), (⟨w.heap.size + 1 + 1, 1, none⟩, .int .i64 q1), (⟨sb, so + k, none⟩, .int .i64 sec)]) (by simp))
    clear hG hW12 H11
    go_loopw [76] (fun i wr => ∃ j : Nat, j ≤ 4 ∧ i = .int .i64 (j : Int) ∧ Hid (HT w [(⟨G, 0, none⟩, .int .i64 (k : Int)), (⟨G, 1, none⟩, .int .i64 ky), (⟨G, 2, none⟩, .int .i64 Cp), (⟨G, 3, none⟩, .int .i64 Z), (⟨G, 4, none⟩, .int .i64 (k : Int)), (⟨G, 5, none⟩, .int .i64 ky1), (⟨G, 6, none⟩, .int .i64 C1), (⟨G, 7, none⟩, .int .i64 Z1), (⟨G, 8, none⟩, .int .i64 (k : Int)), (⟨G, 9, none⟩, .int .i64 ky2), (⟨G, 10, none⟩, .int .i64 C2), (⟨G, 11, none⟩, .int .i64 Z2), (⟨G, 12, none⟩, .int .i64 (k : Int)), (⟨G, 13, none⟩, .int .i64 ky3), (⟨G, 14, none⟩, .int .i64 C2), (⟨G, 15, none⟩, .int .i64 Z2), (⟨X, 0, none⟩, .int .i64 (k : Int)), (⟨X, 1, none⟩, .int .i64 ky2), (⟨X, 2, none⟩, .int .i64 C2), (⟨X, 3, none⟩, .int .i64 Z2), (⟨D, 0, none⟩, .slice cp C.length cc), (⟨D, 1, none⟩, .int .i64 pt), (⟨D, 2, none⟩, .slice bp B.length bc), (⟨kb, ko + k, none⟩, .int .i64 kk), (⟨w.heap.size, 0, none⟩, .slice (some ⟨sb, so, none⟩) n c), (⟨w.heap.size, 1, none⟩, .slice q m e), (⟨w.heap.size, 2, none⟩, .string sd), (⟨w.heap.size + 1 + 1, 0, none⟩, .int .i64 q0), (⟨w.heap.size + 1 + 1, 1, none⟩, .int .i64 q1), (⟨sb, so + k, none⟩, .int .i64 sec)] (.slice (some ⟨kb, ko, none⟩) K.length kc) (.slice cp C.length cc) (.slice bp B.length bc) K C B #[.int .i64 (k : Int), .int .i64 ky, .int .i64 Cp, .int .i64 Z] wr)) (fun i _ => 4 - (match i with | .int _ i => i.toNat | _ => 0))
    case atStart => exact ⟨0, Nat.zero_le _, rfl, H12⟩
    case round =>
      clear H12
      obtain ⟨j, hj, rfl, HR⟩ := hrel
      by_cases hlt : j < 4
      · obtain ⟨e0, e1, e2, e3⟩ := elem4 HF.out.1 hlt HR.out.k.k
        obtain ⟨kyi, hkyi⟩ : ∃ x, kyF j = x := ⟨_, rfl⟩
        obtain ⟨Ci, hCi⟩ : ∃ x, CF j = x := ⟨_, rfl⟩
        obtain ⟨Zi, hZi⟩ : ∃ x, ZF j = x := ⟨_, rfl⟩
        obtain ⟨ji, hji⟩ : ∃ x, jF j = x := ⟨_, rfl⟩
        obtain ⟨ri, hri⟩ : ∃ x, rF j = x := ⟨_, rfl⟩
        have Vi := V1.out j hlt
        have Ji := J1.out j hlt
        have Fi := HF.out.2.1 j hlt
        rw [hkyi, hCi, hZi, hri] at Vi
        rw [hkyi, hCi, hZi, hji] at Ji
        rw [hkyi, hji, hri] at Fi
        rw [hkyi] at e1
        rw [hCi] at e2
        rw [hZi] at e3
        replace Vi := Lib.hid Vi
        replace Ji := Lib.hid Ji
        clear hkyi hCi hZi hji hri
        go_upto_region 15 with fail
        clear e0 e1 e2 e3
        have H14 := HR.out.cells #[.int .i64 (k : Int), .int .i64 kyi, .int .i64 Ci, .int .i64 Zi] 28 _ rfl
        obtain ⟨Q, hQ⟩ : ∃ Q, wr.heap.size = Q := ⟨_, rfl⟩
        obtain ⟨W14, hW14⟩ : ∃ V, wr.alloc (.cells #[.int .i64 (k : Int), .int .i64 kyi, .int .i64 Ci, .int .i64 Zi] 28) = V := ⟨_, rfl⟩
        rw [hW14] at H14 ⊢
        rw [hQ] at H14 ⊢
        replace H14 := Lib.hid (H14.sub (M := [(⟨Q, 0, none⟩, .int .i64 (k : Int)), (⟨Q, 1, none⟩, .int .i64 kyi), (⟨Q, 2, none⟩, .int .i64 Ci), (⟨Q, 3, none⟩, .int .i64 Zi), (⟨G, 0, none⟩, .int .i64 (k : Int)), (⟨G, 1, none⟩, .int .i64 ky), (⟨G, 2, none⟩, .int .i64 Cp), (⟨G, 3, none⟩, .int .i64 Z), (⟨G, 4, none⟩, .int .i64 (k : Int)), (⟨G, 5, none⟩, .int .i64 ky1), (⟨G, 6, none⟩, .int .i64 C1), (⟨G, 7, none⟩, .int .i64 Z1), (⟨G, 8, none⟩, .int .i64 (k : Int)), (⟨G, 9, none⟩, .int .i64 ky2), (⟨G, 10, none⟩, .int .i64 C2), (⟨G, 11, none⟩, .int .i64 Z2), (⟨G, 12, none⟩, .int .i64 (k : Int)), (⟨G, 13, none⟩, .int .i64 ky3), (⟨G, 14, none⟩, .int .i64 C2), (⟨G, 15, none⟩, .int .i64 Z2), (⟨X, 0, none⟩, .int .i64 (k : Int)), (⟨X, 1, none⟩, .int .i64 ky2), (⟨X, 2, none⟩, .int .i64 C2), (⟨X, 3, none⟩, .int .i64 Z2), (⟨D, 0, none⟩, .slice cp C.length cc), (⟨D, 1, none⟩, .int .i64 pt), (⟨D, 2, none⟩, .slice bp B.length bc), (⟨kb, ko + k, none⟩, .int .i64 kk), (⟨w.heap.size, 0, none⟩, .slice (some ⟨sb, so, none⟩) n c), (⟨w.heap.size, 1, none⟩, .slice q m e), (⟨w.heap.size, 2, none⟩, .string sd), (⟨w.heap.size + 1 + 1, 0, none⟩, .int .i64 q0), (⟨w.heap.size + 1 + 1, 1, none⟩, .int .i64 q1), (⟨sb, so + k, none⟩, .int .i64 sec)]) (by simp))
        clear hQ hW14 HR
        by_cases hsame : kyi = sh
        · have z1 : (kyi == sh) = true := by simp [hsame]
          have z2 : (kyi != sh) = false := by simp [hsame]
          have hj1 : (ji == 1) = false := by have := Fi.1 hsame; simpa using this
          clear Fi hsame Vi
          refine wp_region_held_drew (S := HT w [(⟨Q, 0, none⟩, .int .i64 (k : Int)), (⟨Q, 1, none⟩, .int .i64 kyi), (⟨Q, 2, none⟩, .int .i64 Ci), (⟨Q, 3, none⟩, .int .i64 Zi), (⟨G, 0, none⟩, .int .i64 (k : Int)), (⟨G, 1, none⟩, .int .i64 ky), (⟨G, 2, none⟩, .int .i64 Cp), (⟨G, 3, none⟩, .int .i64 Z), (⟨G, 4, none⟩, .int .i64 (k : Int)), (⟨G, 5, none⟩, .int .i64 ky1), (⟨G, 6, none⟩, .int .i64 C1), (⟨G, 7, none⟩, .int .i64 Z1), (⟨G, 8, none⟩, .int .i64 (k : Int)), (⟨G, 9, none⟩, .int .i64 ky2), (⟨G, 10, none⟩, .int .i64 C2), (⟨G, 11, none⟩, .int .i64 Z2), (⟨G, 12, none⟩, .int .i64 (k : Int)), (⟨G, 13, none⟩, .int .i64 ky3), (⟨G, 14, none⟩, .int .i64 C2), (⟨G, 15, none⟩, .int .i64 Z2), (⟨X, 0, none⟩, .int .i64 (k : Int)), (⟨X, 1, none⟩, .int .i64 ky2), (⟨X, 2, none⟩, .int .i64 C2), (⟨X, 3, none⟩, .int .i64 Z2), (⟨D, 0, none⟩, .slice cp C.length cc), (⟨D, 1, none⟩, .int .i64 pt), (⟨D, 2, none⟩, .slice bp B.length bc), (⟨kb, ko + k, none⟩, .int .i64 kk), (⟨w.heap.size, 0, none⟩, .slice (some ⟨sb, so, none⟩) n c), (⟨w.heap.size, 1, none⟩, .slice q m e), (⟨w.heap.size, 2, none⟩, .string sd), (⟨w.heap.size + 1 + 1, 0, none⟩, .int .i64 q0), (⟨w.heap.size + 1 + 1, 1, none⟩, .int .i64 q1), (⟨sb, so + k, none⟩, .int .i64 sec)] (.slice (some ⟨kb, ko, none⟩) K.length kc) (.slice cp C.length cc) (.slice bp B.length bc) K C B #[.int .i64 (k : Int), .int .i64 ky, .int .i64 Cp, .int .i64 Z]) (by kernel_rfl) H14.out.drew (fun hS => ?_)
          clear H14
          refine wpAnyH_take (i := 0) (oi := { dst := some 80, op := Op.fieldAddr 28 (Operand.tmp 17) 1, type := 0, pos := "more.go:27", after := #[], guard := none }) (v := ?vhd0) rfl (by kernel_rfl) (by kernel_rfl) (by kernel_rfl) (fun _ _ _ h => h) (Or.inl ⟨by rfl, ?yhd0⟩) hS ?rhd0
          case yhd0 => (intro w hS; go_simp; try with_reducible rfl)
          refine wpAnyH_take (i := 2) (oi := { dst := some 82, op := Op.fieldAddr 24 (Operand.tmp 3) 0, type := 0, pos := "more.go:27", after := #[], guard := none }) (v := ?vhd2) rfl (by kernel_rfl) (by kernel_rfl) (by kernel_rfl) (fun _ _ _ h => h) (Or.inl ⟨by rfl, ?yhd2⟩) hS ?rhd2
          case yhd2 => (intro w hS; go_simp; try with_reducible rfl)
          refine wpAnyH_take (i := 4) (oi := { dst := some 84, op := Op.move (Operand.tmp 12), type := 3, pos := "more.go:27", after := #[], guard := none }) (v := ?vhd4) rfl (by kernel_rfl) (by kernel_rfl) (by kernel_rfl) (fun _ _ _ h => h) (Or.inl ⟨by rfl, ?yhd4⟩) hS ?rhd4
          case yhd4 => (intro w hS; go_simp; try with_reducible rfl)
          refine wpAnyH_take (i := 7) (oi := { dst := some 87, op := Op.load 34 (Operand.tmp 10), type := 34, pos := "more.go:27", after := #[], guard := none }) (v := .agg #[.slice cp C.length cc, .int .i64 pt, .slice bp B.length bc]) rfl (by kernel_rfl) (by kernel_rfl) (by kernel_rfl) (fun _ _ _ h => h) (Or.inl ⟨by rfl, ?yhd7⟩) hS ?rhd7
          case yhd7 => (intro w' hS; have cf := (show w'.cell? ⟨D, 0, none⟩ = some (.slice cp C.length cc) ∧ w'.cell? ⟨D, 1, none⟩ = some (.int .i64 pt) ∧ w'.cell? ⟨D, 2, none⟩ = some (.slice bp B.length bc) from ⟨hS.get _ _ (by simp), hS.get _ _ (by simp), hS.get _ _ (by simp)⟩); go_simp; try with_reducible rfl)
          go_simp
          refine wpAnyH_take (i := 1) (oi := { dst := some 81, op := Op.load 3 (Operand.tmp 80), type := 3, pos := "more.go:27", after := #[{ on := 0, ground := Ground.data }], guard := none }) (v := .int .i64 kyi) rfl (by kernel_rfl) (by kernel_rfl) (by kernel_rfl) (fun _ _ _ h => h) (Or.inl ⟨by rfl, ?yhd1⟩) hS ?rhd1
          case yhd1 => (intro w' hS; have cf := hS.get ⟨Q, 1, none⟩ (.int .i64 kyi) (by simp); go_simp; try with_reducible rfl)
          refine wpAnyH_take (i := 3) (oi := { dst := some 83, op := Op.load 22 (Operand.tmp 82), type := 22, pos := "more.go:27", after := #[{ on := 2, ground := Ground.data }], guard := none }) (v := .slice (some ⟨sb, so, none⟩) n c) rfl (by kernel_rfl) (by kernel_rfl) (by kernel_rfl) (fun _ _ _ h => h) (Or.inl ⟨by rfl, ?yhd3⟩) hS ?rhd3
          case yhd3 => (intro w' hS; have cf := hS.get ⟨w.heap.size, 0, none⟩ (.slice (some ⟨sb, so, none⟩) n c) (by simp); go_simp; try with_reducible rfl)
          go_simp
          refine wpAnyH_take (i := 5) (oi := { dst := some 85, op := Op.indexAddr 22 (Operand.tmp 83) (Operand.tmp 84), type := 0, pos := "more.go:27", after := #[{ on := 3, ground := Ground.data }, { on := 4, ground := Ground.data }], guard := none }) (v := ?vhd5) rfl (by kernel_rfl) (by kernel_rfl) (by kernel_rfl) (fun _ _ _ h => h) (Or.inl ⟨by rfl, ?yhd5⟩) hS ?rhd5
          case yhd5 => (intro w hS; go_simp; try with_reducible rfl)
          go_simp
          refine wpAnyH_take (i := 6) (oi := { dst := some 86, op := Op.load 3 (Operand.tmp 85), type := 3, pos := "more.go:27", after := #[{ on := 5, ground := Ground.data }], guard := none }) (v := .int .i64 sec) rfl (by kernel_rfl) (by kernel_rfl) (by kernel_rfl) (fun _ _ _ h => h) (Or.inl ⟨by rfl, ?yhd6⟩) hS ?rhd6
          case yhd6 => (intro w' hS; have cf := hS.get ⟨sb, so + k, none⟩ (.int .i64 sec) (by simp); go_simp; try with_reducible rfl)
          go_simp
          refine wpAnyH_ready (rs := [8]) (by kernel_rfl) (by simp) ?_
          refine AllReadyH.cons (o := { dst := some 88, op := Op.call { callee := Callee.value (Operand.func 17), args := #[Operand.tmp 86, Operand.tmp 87], argTypes := #[3, 34] }, type := 3, pos := "more.go:27", after := #[{ on := 6, ground := Ground.data }, { on := 7, ground := Ground.data }], guard := none }) rfl (fun K hK => ?_) AllReadyH.nil
          go_simp
          go_at_call 17
          refine (Sh.out _ _ _ _ _).mono ?_
          rintro e w' ⟨rfl, b⟩
          have hS2 := hS.next b
          clear b hS
          try go_simp
          refine hK.out _ _ hS2 (fun hS => ?_)
          clear hK K hS2
          refine wpAnyH_take (i := 9) (oi := { dst := some 89, op := Op.binOp BinOp.neq 3 (Operand.tmp 81) (Operand.tmp 88) 3, type := 4, pos := "more.go:27", after := #[{ on := 1, ground := Ground.data }, { on := 8, ground := Ground.data }], guard := none }) (v := ?vhd9) rfl (by kernel_rfl) (by kernel_rfl) (by kernel_rfl) (fun _ _ _ h => h) (Or.inl ⟨by rfl, ?yhd9⟩) hS ?rhd9
          case yhd9 => (intro w hS; go_simp; try with_reducible rfl)
          go_simp
          refine wpAnyH_take (i := 10) (oi := { dst := some 90, op := Op.move (Operand.tmp 89), type := 4, pos := "more.go:27", after := #[{ on := 9, ground := Ground.data }, { on := 8, ground := Ground.chain }], guard := none }) (v := ?vhd10) rfl (by kernel_rfl) (by kernel_rfl) (by kernel_rfl) (fun _ _ _ h => h) (Or.inl ⟨by rfl, ?yhd10⟩) hS ?rhd10
          case yhd10 => (intro w hS; go_simp; try with_reducible rfl)
          go_simp
          refine wpAnyH_take (i := 11) (oi := { dst := some 91, op := Op.move (Operand.tmp 8), type := 22, pos := "more.go:27", after := #[{ on := 10, ground := Ground.guard }], guard := some (10, true) }) (v := undef) rfl (by kernel_rfl) (by kernel_rfl) (by kernel_rfl) (fun _ _ _ h => h) (Or.inr ⟨by rfl, rfl⟩) hS ?rhd11
          refine wpAnyH_take (i := 12) (oi := { dst := some 92, op := Op.move (Operand.tmp 12), type := 3, pos := "more.go:27", after := #[{ on := 10, ground := Ground.guard }], guard := some (10, true) }) (v := undef) rfl (by kernel_rfl) (by kernel_rfl) (by kernel_rfl) (fun _ _ _ h => h) (Or.inr ⟨by rfl, rfl⟩) hS ?rhd12
          refine wpAnyH_take (i := 15) (oi := { dst := some 95, op := Op.fieldAddr 34 (Operand.tmp 10) 1, type := 0, pos := "more.go:27", after := #[{ on := 10, ground := Ground.guard }], guard := some (10, true) }) (v := undef) rfl (by kernel_rfl) (by kernel_rfl) (by kernel_rfl) (fun _ _ _ h => h) (Or.inr ⟨by rfl, rfl⟩) hS ?rhd15
          refine wpAnyH_take (i := 17) (oi := { dst := some 97, op := Op.fieldAddr 28 (Operand.tmp 17) 1, type := 0, pos := "more.go:27", after := #[{ on := 10, ground := Ground.guard }], guard := some (10, true) }) (v := undef) rfl (by kernel_rfl) (by kernel_rfl) (by kernel_rfl) (fun _ _ _ h => h) (Or.inr ⟨by rfl, rfl⟩) hS ?rhd17
          refine wpAnyH_take (i := 19) (oi := { dst := some 99, op := Op.fieldAddr 28 (Operand.tmp 17) 2, type := 0, pos := "more.go:27", after := #[{ on := 10, ground := Ground.guard }], guard := some (10, true) }) (v := undef) rfl (by kernel_rfl) (by kernel_rfl) (by kernel_rfl) (fun _ _ _ h => h) (Or.inr ⟨by rfl, rfl⟩) hS ?rhd19
          go_simp
          refine wpAnyH_take (i := 13) (oi := { dst := some 93, op := Op.indexAddr 22 (Operand.tmp 91) (Operand.tmp 92), type := 0, pos := "more.go:27", after := #[{ on := 11, ground := Ground.data }, { on := 12, ground := Ground.data }, { on := 10, ground := Ground.guard }], guard := some (10, true) }) (v := undef) rfl (by kernel_rfl) (by kernel_rfl) (by kernel_rfl) (fun _ _ _ h => h) (Or.inr ⟨by rfl, rfl⟩) hS ?rhd13
          refine wpAnyH_take (i := 16) (oi := { dst := some 96, op := Op.load 3 (Operand.tmp 95), type := 3, pos := "more.go:27", after := #[{ on := 15, ground := Ground.data }, { on := 10, ground := Ground.guard }], guard := some (10, true) }) (v := undef) rfl (by kernel_rfl) (by kernel_rfl) (by kernel_rfl) (fun _ _ _ h => h) (Or.inr ⟨by rfl, rfl⟩) hS ?rhd16
          refine wpAnyH_take (i := 18) (oi := { dst := some 98, op := Op.load 3 (Operand.tmp 97), type := 3, pos := "more.go:27", after := #[{ on := 17, ground := Ground.data }, { on := 10, ground := Ground.guard }], guard := some (10, true) }) (v := undef) rfl (by kernel_rfl) (by kernel_rfl) (by kernel_rfl) (fun _ _ _ h => h) (Or.inr ⟨by rfl, rfl⟩) hS ?rhd18
          refine wpAnyH_take (i := 20) (oi := { dst := some 100, op := Op.load 26 (Operand.tmp 99), type := 26, pos := "more.go:27", after := #[{ on := 19, ground := Ground.data }, { on := 10, ground := Ground.guard }], guard := some (10, true) }) (v := undef) rfl (by kernel_rfl) (by kernel_rfl) (by kernel_rfl) (fun _ _ _ h => h) (Or.inr ⟨by rfl, rfl⟩) hS ?rhd20
          go_simp
          refine wpAnyH_take (i := 14) (oi := { dst := some 94, op := Op.load 3 (Operand.tmp 93), type := 3, pos := "more.go:27", after := #[{ on := 13, ground := Ground.data }, { on := 10, ground := Ground.guard }], guard := some (10, true) }) (v := undef) rfl (by kernel_rfl) (by kernel_rfl) (by kernel_rfl) (fun _ _ _ h => h) (Or.inr ⟨by rfl, rfl⟩) hS ?rhd14
          go_simp
          refine wpAnyH_take (i := 21) (oi := { dst := some 101, op := Op.call { callee := Callee.value (Operand.func 18), args := #[Operand.const (Value.int IntKind.i64 4), Operand.tmp 94, Operand.tmp 96, Operand.tmp 98, Operand.tmp 100], argTypes := #[3, 3, 3, 3, 26] }, type := 4, pos := "more.go:27", after := #[{ on := 14, ground := Ground.data }, { on := 16, ground := Ground.data }, { on := 18, ground := Ground.data }, { on := 20, ground := Ground.data }, { on := 10, ground := Ground.chain }, { on := 10, ground := Ground.guard }], guard := some (10, true) }) (v := undef) rfl (by kernel_rfl) (by kernel_rfl) (by kernel_rfl) (fun _ _ _ h => h) (Or.inr ⟨by rfl, rfl⟩) hS ?rhd21
          go_simp
          refine wpAnyH_take (i := 22) (oi := { dst := some 102, op := Op.pick (Operand.tmp 90) (Operand.tmp 101) (Operand.const (Value.bool false)), type := 4, pos := "more.go:27", after := #[{ on := 10, ground := Ground.data }, { on := 21, ground := Ground.data }], guard := none }) (v := ?vhd22) rfl (by kernel_rfl) (by kernel_rfl) (by kernel_rfl) (fun _ _ _ h => h) (Or.inl ⟨by rfl, ?yhd22⟩) hS ?rhd22
          case yhd22 => (intro w hS; go_simp; try with_reducible rfl)
          go_simp
          refine wpAnyH_take (i := 23) (oi := { dst := some 18, op := Op.assign (Operand.tmp 102), type := 4, pos := "more.go:27", after := #[{ on := 22, ground := Ground.data }, { on := 21, ground := Ground.chain }, { on := 0, ground := Ground.phase }, { on := 1, ground := Ground.phase }, { on := 2, ground := Ground.phase }, { on := 3, ground := Ground.phase }, { on := 4, ground := Ground.phase }, { on := 5, ground := Ground.phase }, { on := 6, ground := Ground.phase }, { on := 7, ground := Ground.phase }, { on := 8, ground := Ground.phase }, { on := 9, ground := Ground.phase }, { on := 10, ground := Ground.phase }, { on := 11, ground := Ground.phase }, { on := 12, ground := Ground.phase }, { on := 13, ground := Ground.phase }, { on := 14, ground := Ground.phase }, { on := 15, ground := Ground.phase }, { on := 16, ground := Ground.phase }, { on := 17, ground := Ground.phase }, { on := 18, ground := Ground.phase }, { on := 19, ground := Ground.phase }, { on := 20, ground := Ground.phase }, { on := 21, ground := Ground.phase }, { on := 22, ground := Ground.phase }], guard := none }) (v := ?vhd23) rfl (by kernel_rfl) (by kernel_rfl) (by kernel_rfl) (fun _ _ _ h => h) (Or.inl ⟨by rfl, ?yhd23⟩) hS ?rhd23
          case yhd23 => (intro w hS; go_simp; try with_reducible rfl)
          refine wpAnyH_done (by kernel_rfl) ?_ _
          have H15 := Lib.hid hS; clear hS
          try dsimp only [Act.put]
          have d0 := H15.out.get ⟨D, 0, none⟩ (.slice cp C.length cc) (by simp)
          have d1 := H15.out.get ⟨D, 1, none⟩ (.int .i64 pt) (by simp)
          have d2 := H15.out.get ⟨D, 2, none⟩ (.slice bp B.length bc) (by simp)
          have e0 := H15.out.get ⟨Q, 0, none⟩ (.int .i64 (k : Int)) (by simp)
          have e1 := H15.out.get ⟨Q, 1, none⟩ (.int .i64 kyi) (by simp)
          have e2 := H15.out.get ⟨Q, 2, none⟩ (.int .i64 Ci) (by simp)
          have e3 := H15.out.get ⟨Q, 3, none⟩ (.int .i64 Zi) (by simp)
          go_wp2_with fail
          refine (Ji.out _ _ _ _ _ _ _ H15.out.b (own_VL H15.out.hK) (own_VL H15.out.hC) (own_VL H15.out.hB)).mono ?_
          rintro e w' ⟨rfl, b⟩
          have H16 := Lib.hid ((H15.out.next b).sub (M := [(⟨G, 0, none⟩, .int .i64 (k : Int)), (⟨G, 1, none⟩, .int .i64 ky), (⟨G, 2, none⟩, .int .i64 Cp), (⟨G, 3, none⟩, .int .i64 Z), (⟨G, 4, none⟩, .int .i64 (k : Int)), (⟨G, 5, none⟩, .int .i64 ky1), (⟨G, 6, none⟩, .int .i64 C1), (⟨G, 7, none⟩, .int .i64 Z1), (⟨G, 8, none⟩, .int .i64 (k : Int)), (⟨G, 9, none⟩, .int .i64 ky2), (⟨G, 10, none⟩, .int .i64 C2), (⟨G, 11, none⟩, .int .i64 Z2), (⟨G, 12, none⟩, .int .i64 (k : Int)), (⟨G, 13, none⟩, .int .i64 ky3), (⟨G, 14, none⟩, .int .i64 C2), (⟨G, 15, none⟩, .int .i64 Z2), (⟨X, 0, none⟩, .int .i64 (k : Int)), (⟨X, 1, none⟩, .int .i64 ky2), (⟨X, 2, none⟩, .int .i64 C2), (⟨X, 3, none⟩, .int .i64 Z2), (⟨D, 0, none⟩, .slice cp C.length cc), (⟨D, 1, none⟩, .int .i64 pt), (⟨D, 2, none⟩, .slice bp B.length bc), (⟨kb, ko + k, none⟩, .int .i64 kk), (⟨w.heap.size, 0, none⟩, .slice (some ⟨sb, so, none⟩) n c), (⟨w.heap.size, 1, none⟩, .slice q m e), (⟨w.heap.size, 2, none⟩, .string sd), (⟨w.heap.size + 1 + 1, 0, none⟩, .int .i64 q0), (⟨w.heap.size + 1 + 1, 1, none⟩, .int .i64 q1), (⟨sb, so + k, none⟩, .int .i64 sec)]) (by simp)); clear b H15 d0 d1 d2 e0 e1 e2 e3
          go_wp2
          exact ⟨⟨j + 1, by omega, by go_num, H16⟩, by simp; omega⟩
        · have z1 : (kyi == sh) = false := by simp [hsame]
          have z2 : (kyi != sh) = true := by simp [hsame]
          refine wp_region_held_drew (S := HT w [(⟨Q, 0, none⟩, .int .i64 (k : Int)), (⟨Q, 1, none⟩, .int .i64 kyi), (⟨Q, 2, none⟩, .int .i64 Ci), (⟨Q, 3, none⟩, .int .i64 Zi), (⟨G, 0, none⟩, .int .i64 (k : Int)), (⟨G, 1, none⟩, .int .i64 ky), (⟨G, 2, none⟩, .int .i64 Cp), (⟨G, 3, none⟩, .int .i64 Z), (⟨G, 4, none⟩, .int .i64 (k : Int)), (⟨G, 5, none⟩, .int .i64 ky1), (⟨G, 6, none⟩, .int .i64 C1), (⟨G, 7, none⟩, .int .i64 Z1), (⟨G, 8, none⟩, .int .i64 (k : Int)), (⟨G, 9, none⟩, .int .i64 ky2), (⟨G, 10, none⟩, .int .i64 C2), (⟨G, 11, none⟩, .int .i64 Z2), (⟨G, 12, none⟩, .int .i64 (k : Int)), (⟨G, 13, none⟩, .int .i64 ky3), (⟨G, 14, none⟩, .int .i64 C2), (⟨G, 15, none⟩, .int .i64 Z2), (⟨X, 0, none⟩, .int .i64 (k : Int)), (⟨X, 1, none⟩, .int .i64 ky2), (⟨X, 2, none⟩, .int .i64 C2), (⟨X, 3, none⟩, .int .i64 Z2), (⟨D, 0, none⟩, .slice cp C.length cc), (⟨D, 1, none⟩, .int .i64 pt), (⟨D, 2, none⟩, .slice bp B.length bc), (⟨kb, ko + k, none⟩, .int .i64 kk), (⟨w.heap.size, 0, none⟩, .slice (some ⟨sb, so, none⟩) n c), (⟨w.heap.size, 1, none⟩, .slice q m e), (⟨w.heap.size, 2, none⟩, .string sd), (⟨w.heap.size + 1 + 1, 0, none⟩, .int .i64 q0), (⟨w.heap.size + 1 + 1, 1, none⟩, .int .i64 q1), (⟨sb, so + k, none⟩, .int .i64 sec)] (.slice (some ⟨kb, ko, none⟩) K.length kc) (.slice cp C.length cc) (.slice bp B.length bc) K C B #[.int .i64 (k : Int), .int .i64 ky, .int .i64 Cp, .int .i64 Z]) (by kernel_rfl) H14.out.drew (fun hS => ?_)
          clear H14
          refine wpAnyH_take (i := 0) (oi := { dst := some 80, op := Op.fieldAddr 28 (Operand.tmp 17) 1, type := 0, pos := "more.go:27", after := #[], guard := none }) (v := ?vhe0) rfl (by kernel_rfl) (by kernel_rfl) (by kernel_rfl) (fun _ _ _ h => h) (Or.inl ⟨by rfl, ?yhe0⟩) hS ?rhe0
          case yhe0 => (intro w hS; go_simp; try with_reducible rfl)
          refine wpAnyH_take (i := 2) (oi := { dst := some 82, op := Op.fieldAddr 24 (Operand.tmp 3) 0, type := 0, pos := "more.go:27", after := #[], guard := none }) (v := ?vhe2) rfl (by kernel_rfl) (by kernel_rfl) (by kernel_rfl) (fun _ _ _ h => h) (Or.inl ⟨by rfl, ?yhe2⟩) hS ?rhe2
          case yhe2 => (intro w hS; go_simp; try with_reducible rfl)
          refine wpAnyH_take (i := 4) (oi := { dst := some 84, op := Op.move (Operand.tmp 12), type := 3, pos := "more.go:27", after := #[], guard := none }) (v := ?vhe4) rfl (by kernel_rfl) (by kernel_rfl) (by kernel_rfl) (fun _ _ _ h => h) (Or.inl ⟨by rfl, ?yhe4⟩) hS ?rhe4
          case yhe4 => (intro w hS; go_simp; try with_reducible rfl)
          refine wpAnyH_take (i := 7) (oi := { dst := some 87, op := Op.load 34 (Operand.tmp 10), type := 34, pos := "more.go:27", after := #[], guard := none }) (v := .agg #[.slice cp C.length cc, .int .i64 pt, .slice bp B.length bc]) rfl (by kernel_rfl) (by kernel_rfl) (by kernel_rfl) (fun _ _ _ h => h) (Or.inl ⟨by rfl, ?yhe7⟩) hS ?rhe7
          case yhe7 => (intro w' hS; have cf := (show w'.cell? ⟨D, 0, none⟩ = some (.slice cp C.length cc) ∧ w'.cell? ⟨D, 1, none⟩ = some (.int .i64 pt) ∧ w'.cell? ⟨D, 2, none⟩ = some (.slice bp B.length bc) from ⟨hS.get _ _ (by simp), hS.get _ _ (by simp), hS.get _ _ (by simp)⟩); go_simp; try with_reducible rfl)
          go_simp
          refine wpAnyH_take (i := 1) (oi := { dst := some 81, op := Op.load 3 (Operand.tmp 80), type := 3, pos := "more.go:27", after := #[{ on := 0, ground := Ground.data }], guard := none }) (v := .int .i64 kyi) rfl (by kernel_rfl) (by kernel_rfl) (by kernel_rfl) (fun _ _ _ h => h) (Or.inl ⟨by rfl, ?yhe1⟩) hS ?rhe1
          case yhe1 => (intro w' hS; have cf := hS.get ⟨Q, 1, none⟩ (.int .i64 kyi) (by simp); go_simp; try with_reducible rfl)
          refine wpAnyH_take (i := 3) (oi := { dst := some 83, op := Op.load 22 (Operand.tmp 82), type := 22, pos := "more.go:27", after := #[{ on := 2, ground := Ground.data }], guard := none }) (v := .slice (some ⟨sb, so, none⟩) n c) rfl (by kernel_rfl) (by kernel_rfl) (by kernel_rfl) (fun _ _ _ h => h) (Or.inl ⟨by rfl, ?yhe3⟩) hS ?rhe3
          case yhe3 => (intro w' hS; have cf := hS.get ⟨w.heap.size, 0, none⟩ (.slice (some ⟨sb, so, none⟩) n c) (by simp); go_simp; try with_reducible rfl)
          go_simp
          refine wpAnyH_take (i := 5) (oi := { dst := some 85, op := Op.indexAddr 22 (Operand.tmp 83) (Operand.tmp 84), type := 0, pos := "more.go:27", after := #[{ on := 3, ground := Ground.data }, { on := 4, ground := Ground.data }], guard := none }) (v := ?vhe5) rfl (by kernel_rfl) (by kernel_rfl) (by kernel_rfl) (fun _ _ _ h => h) (Or.inl ⟨by rfl, ?yhe5⟩) hS ?rhe5
          case yhe5 => (intro w hS; go_simp; try with_reducible rfl)
          go_simp
          refine wpAnyH_take (i := 6) (oi := { dst := some 86, op := Op.load 3 (Operand.tmp 85), type := 3, pos := "more.go:27", after := #[{ on := 5, ground := Ground.data }], guard := none }) (v := .int .i64 sec) rfl (by kernel_rfl) (by kernel_rfl) (by kernel_rfl) (fun _ _ _ h => h) (Or.inl ⟨by rfl, ?yhe6⟩) hS ?rhe6
          case yhe6 => (intro w' hS; have cf := hS.get ⟨sb, so + k, none⟩ (.int .i64 sec) (by simp); go_simp; try with_reducible rfl)
          go_simp
          refine wpAnyH_ready (rs := [8]) (by kernel_rfl) (by simp) ?_
          refine AllReadyH.cons (o := { dst := some 88, op := Op.call { callee := Callee.value (Operand.func 17), args := #[Operand.tmp 86, Operand.tmp 87], argTypes := #[3, 34] }, type := 3, pos := "more.go:27", after := #[{ on := 6, ground := Ground.data }, { on := 7, ground := Ground.data }], guard := none }) rfl (fun K hK => ?_) AllReadyH.nil
          go_simp
          go_at_call 17
          refine (Sh.out _ _ _ _ _).mono ?_
          rintro e w' ⟨rfl, b⟩
          have hS2 := hS.next b
          clear b hS
          try go_simp
          refine hK.out _ _ hS2 (fun hS => ?_)
          clear hK K hS2
          refine wpAnyH_take (i := 9) (oi := { dst := some 89, op := Op.binOp BinOp.neq 3 (Operand.tmp 81) (Operand.tmp 88) 3, type := 4, pos := "more.go:27", after := #[{ on := 1, ground := Ground.data }, { on := 8, ground := Ground.data }], guard := none }) (v := ?vhe9) rfl (by kernel_rfl) (by kernel_rfl) (by kernel_rfl) (fun _ _ _ h => h) (Or.inl ⟨by rfl, ?yhe9⟩) hS ?rhe9
          case yhe9 => (intro w hS; go_simp; try with_reducible rfl)
          go_simp
          refine wpAnyH_take (i := 10) (oi := { dst := some 90, op := Op.move (Operand.tmp 89), type := 4, pos := "more.go:27", after := #[{ on := 9, ground := Ground.data }, { on := 8, ground := Ground.chain }], guard := none }) (v := ?vhe10) rfl (by kernel_rfl) (by kernel_rfl) (by kernel_rfl) (fun _ _ _ h => h) (Or.inl ⟨by rfl, ?yhe10⟩) hS ?rhe10
          case yhe10 => (intro w hS; go_simp; try with_reducible rfl)
          go_simp
          refine wpAnyH_take (i := 11) (oi := { dst := some 91, op := Op.move (Operand.tmp 8), type := 22, pos := "more.go:27", after := #[{ on := 10, ground := Ground.guard }], guard := some (10, true) }) (v := ?vhe11) rfl (by kernel_rfl) (by kernel_rfl) (by kernel_rfl) (fun _ _ _ h => h) (Or.inl ⟨by rfl, ?yhe11⟩) hS ?rhe11
          case yhe11 => (intro w hS; go_simp; try with_reducible rfl)
          refine wpAnyH_take (i := 12) (oi := { dst := some 92, op := Op.move (Operand.tmp 12), type := 3, pos := "more.go:27", after := #[{ on := 10, ground := Ground.guard }], guard := some (10, true) }) (v := ?vhe12) rfl (by kernel_rfl) (by kernel_rfl) (by kernel_rfl) (fun _ _ _ h => h) (Or.inl ⟨by rfl, ?yhe12⟩) hS ?rhe12
          case yhe12 => (intro w hS; go_simp; try with_reducible rfl)
          refine wpAnyH_take (i := 15) (oi := { dst := some 95, op := Op.fieldAddr 34 (Operand.tmp 10) 1, type := 0, pos := "more.go:27", after := #[{ on := 10, ground := Ground.guard }], guard := some (10, true) }) (v := ?vhe15) rfl (by kernel_rfl) (by kernel_rfl) (by kernel_rfl) (fun _ _ _ h => h) (Or.inl ⟨by rfl, ?yhe15⟩) hS ?rhe15
          case yhe15 => (intro w hS; go_simp; try with_reducible rfl)
          refine wpAnyH_take (i := 17) (oi := { dst := some 97, op := Op.fieldAddr 28 (Operand.tmp 17) 1, type := 0, pos := "more.go:27", after := #[{ on := 10, ground := Ground.guard }], guard := some (10, true) }) (v := ?vhe17) rfl (by kernel_rfl) (by kernel_rfl) (by kernel_rfl) (fun _ _ _ h => h) (Or.inl ⟨by rfl, ?yhe17⟩) hS ?rhe17
          case yhe17 => (intro w hS; go_simp; try with_reducible rfl)
          refine wpAnyH_take (i := 19) (oi := { dst := some 99, op := Op.fieldAddr 28 (Operand.tmp 17) 2, type := 0, pos := "more.go:27", after := #[{ on := 10, ground := Ground.guard }], guard := some (10, true) }) (v := ?vhe19) rfl (by kernel_rfl) (by kernel_rfl) (by kernel_rfl) (fun _ _ _ h => h) (Or.inl ⟨by rfl, ?yhe19⟩) hS ?rhe19
          case yhe19 => (intro w hS; go_simp; try with_reducible rfl)
          go_simp
          refine wpAnyH_take (i := 13) (oi := { dst := some 93, op := Op.indexAddr 22 (Operand.tmp 91) (Operand.tmp 92), type := 0, pos := "more.go:27", after := #[{ on := 11, ground := Ground.data }, { on := 12, ground := Ground.data }, { on := 10, ground := Ground.guard }], guard := some (10, true) }) (v := ?vhe13) rfl (by kernel_rfl) (by kernel_rfl) (by kernel_rfl) (fun _ _ _ h => h) (Or.inl ⟨by rfl, ?yhe13⟩) hS ?rhe13
          case yhe13 => (intro w hS; go_simp; try with_reducible rfl)
          refine wpAnyH_take (i := 16) (oi := { dst := some 96, op := Op.load 3 (Operand.tmp 95), type := 3, pos := "more.go:27", after := #[{ on := 15, ground := Ground.data }, { on := 10, ground := Ground.guard }], guard := some (10, true) }) (v := .int .i64 pt) rfl (by kernel_rfl) (by kernel_rfl) (by kernel_rfl) (fun _ _ _ h => h) (Or.inl ⟨by rfl, ?yhe16⟩) hS ?rhe16
          case yhe16 => (intro w' hS; have cf := hS.get ⟨D, 1, none⟩ (.int .i64 pt) (by simp); go_simp; try with_reducible rfl)
          refine wpAnyH_take (i := 18) (oi := { dst := some 98, op := Op.load 3 (Operand.tmp 97), type := 3, pos := "more.go:27", after := #[{ on := 17, ground := Ground.data }, { on := 10, ground := Ground.guard }], guard := some (10, true) }) (v := .int .i64 kyi) rfl (by kernel_rfl) (by kernel_rfl) (by kernel_rfl) (fun _ _ _ h => h) (Or.inl ⟨by rfl, ?yhe18⟩) hS ?rhe18
          case yhe18 => (intro w' hS; have cf := hS.get ⟨Q, 1, none⟩ (.int .i64 kyi) (by simp); go_simp; try with_reducible rfl)
          refine wpAnyH_take (i := 20) (oi := { dst := some 100, op := Op.load 26 (Operand.tmp 99), type := 26, pos := "more.go:27", after := #[{ on := 19, ground := Ground.data }, { on := 10, ground := Ground.guard }], guard := some (10, true) }) (v := .agg #[.int .i64 Ci, .int .i64 Zi]) rfl (by kernel_rfl) (by kernel_rfl) (by kernel_rfl) (fun _ _ _ h => h) (Or.inl ⟨by rfl, ?yhe20⟩) hS ?rhe20
          case yhe20 => (intro w' hS; have cf := (show w'.cell? ⟨Q, 2, none⟩ = some (.int .i64 Ci) ∧ w'.cell? ⟨Q, 3, none⟩ = some (.int .i64 Zi) from ⟨hS.get _ _ (by simp), hS.get _ _ (by simp)⟩); go_simp; try with_reducible rfl)
          go_simp
          refine wpAnyH_take (i := 14) (oi := { dst := some 94, op := Op.load 3 (Operand.tmp 93), type := 3, pos := "more.go:27", after := #[{ on := 13, ground := Ground.data }, { on := 10, ground := Ground.guard }], guard := some (10, true) }) (v := .int .i64 kk) rfl (by kernel_rfl) (by kernel_rfl) (by kernel_rfl) (fun _ _ _ h => h) (Or.inl ⟨by rfl, ?yhe14⟩) hS ?rhe14
          case yhe14 => (intro w' hS; have cf := hS.get ⟨kb, ko + k, none⟩ (.int .i64 kk) (by simp); go_simp; try with_reducible rfl)
          go_simp
          refine wpAnyH_ready (rs := [21]) (by kernel_rfl) (by simp) ?_
          refine AllReadyH.cons (o := { dst := some 101, op := Op.call { callee := Callee.value (Operand.func 18), args := #[Operand.const (Value.int IntKind.i64 4), Operand.tmp 94, Operand.tmp 96, Operand.tmp 98, Operand.tmp 100], argTypes := #[3, 3, 3, 3, 26] }, type := 4, pos := "more.go:27", after := #[{ on := 14, ground := Ground.data }, { on := 16, ground := Ground.data }, { on := 18, ground := Ground.data }, { on := 20, ground := Ground.data }, { on := 10, ground := Ground.chain }, { on := 10, ground := Ground.guard }], guard := some (10, true) }) rfl (fun K hK => ?_) AllReadyH.nil
          go_simp
          go_at_call 18
          refine (Vi.out _ hS.b).mono ?_
          rintro e w' ⟨rfl, b⟩
          have hS2 := hS.next b
          clear b hS
          try go_simp
          refine hK.out _ _ hS2 (fun hS => ?_)
          clear hK K hS2
          refine wpAnyH_take (i := 22) (oi := { dst := some 102, op := Op.pick (Operand.tmp 90) (Operand.tmp 101) (Operand.const (Value.bool false)), type := 4, pos := "more.go:27", after := #[{ on := 10, ground := Ground.data }, { on := 21, ground := Ground.data }], guard := none }) (v := ?vhe22) rfl (by kernel_rfl) (by kernel_rfl) (by kernel_rfl) (fun _ _ _ h => h) (Or.inl ⟨by rfl, ?yhe22⟩) hS ?rhe22
          case yhe22 => (intro w hS; go_simp; try with_reducible rfl)
          go_simp
          refine wpAnyH_take (i := 23) (oi := { dst := some 18, op := Op.assign (Operand.tmp 102), type := 4, pos := "more.go:27", after := #[{ on := 22, ground := Ground.data }, { on := 21, ground := Ground.chain }, { on := 0, ground := Ground.phase }, { on := 1, ground := Ground.phase }, { on := 2, ground := Ground.phase }, { on := 3, ground := Ground.phase }, { on := 4, ground := Ground.phase }, { on := 5, ground := Ground.phase }, { on := 6, ground := Ground.phase }, { on := 7, ground := Ground.phase }, { on := 8, ground := Ground.phase }, { on := 9, ground := Ground.phase }, { on := 10, ground := Ground.phase }, { on := 11, ground := Ground.phase }, { on := 12, ground := Ground.phase }, { on := 13, ground := Ground.phase }, { on := 14, ground := Ground.phase }, { on := 15, ground := Ground.phase }, { on := 16, ground := Ground.phase }, { on := 17, ground := Ground.phase }, { on := 18, ground := Ground.phase }, { on := 19, ground := Ground.phase }, { on := 20, ground := Ground.phase }, { on := 21, ground := Ground.phase }, { on := 22, ground := Ground.phase }], guard := none }) (v := ?vhe23) rfl (by kernel_rfl) (by kernel_rfl) (by kernel_rfl) (fun _ _ _ h => h) (Or.inl ⟨by rfl, ?yhe23⟩) hS ?rhe23
          case yhe23 => (intro w hS; go_simp; try with_reducible rfl)
          refine wpAnyH_done (by kernel_rfl) ?_ _
          have H15 := Lib.hid hS; clear hS
          try dsimp only [Act.put]
          have d0 := H15.out.get ⟨D, 0, none⟩ (.slice cp C.length cc) (by simp)
          have d1 := H15.out.get ⟨D, 1, none⟩ (.int .i64 pt) (by simp)
          have d2 := H15.out.get ⟨D, 2, none⟩ (.slice bp B.length bc) (by simp)
          have e0 := H15.out.get ⟨Q, 0, none⟩ (.int .i64 (k : Int)) (by simp)
          have e1 := H15.out.get ⟨Q, 1, none⟩ (.int .i64 kyi) (by simp)
          have e2 := H15.out.get ⟨Q, 2, none⟩ (.int .i64 Ci) (by simp)
          have e3 := H15.out.get ⟨Q, 3, none⟩ (.int .i64 Zi) (by simp)
          go_wp2_with fail
          refine (Ji.out _ _ _ _ _ _ _ H15.out.b (own_VL H15.out.hK) (own_VL H15.out.hC) (own_VL H15.out.hB)).mono ?_
          rintro e w' ⟨rfl, b⟩
          have H16 := Lib.hid ((H15.out.next b).sub (M := [(⟨G, 0, none⟩, .int .i64 (k : Int)), (⟨G, 1, none⟩, .int .i64 ky), (⟨G, 2, none⟩, .int .i64 Cp), (⟨G, 3, none⟩, .int .i64 Z), (⟨G, 4, none⟩, .int .i64 (k : Int)), (⟨G, 5, none⟩, .int .i64 ky1), (⟨G, 6, none⟩, .int .i64 C1), (⟨G, 7, none⟩, .int .i64 Z1), (⟨G, 8, none⟩, .int .i64 (k : Int)), (⟨G, 9, none⟩, .int .i64 ky2), (⟨G, 10, none⟩, .int .i64 C2), (⟨G, 11, none⟩, .int .i64 Z2), (⟨G, 12, none⟩, .int .i64 (k : Int)), (⟨G, 13, none⟩, .int .i64 ky3), (⟨G, 14, none⟩, .int .i64 C2), (⟨G, 15, none⟩, .int .i64 Z2), (⟨X, 0, none⟩, .int .i64 (k : Int)), (⟨X, 1, none⟩, .int .i64 ky2), (⟨X, 2, none⟩, .int .i64 C2), (⟨X, 3, none⟩, .int .i64 Z2), (⟨D, 0, none⟩, .slice cp C.length cc), (⟨D, 1, none⟩, .int .i64 pt), (⟨D, 2, none⟩, .slice bp B.length bc), (⟨kb, ko + k, none⟩, .int .i64 kk), (⟨w.heap.size, 0, none⟩, .slice (some ⟨sb, so, none⟩) n c), (⟨w.heap.size, 1, none⟩, .slice q m e), (⟨w.heap.size, 2, none⟩, .string sd), (⟨w.heap.size + 1 + 1, 0, none⟩, .int .i64 q0), (⟨w.heap.size + 1 + 1, 1, none⟩, .int .i64 q1), (⟨sb, so + k, none⟩, .int .i64 sec)]) (by simp)); clear b H15 d0 d1 d2 e0 e1 e2 e3
          cases ri with
          | false =>
            have hj1 : (ji == 1) = false := by have := Fi.2 rfl; simpa using this
            go_wp2
            exact ⟨⟨j + 1, by omega, by go_num, H16⟩, by simp; omega⟩
          | true =>
            cases hj1 : (ji == 1) with
            | false =>
              go_wp2
              exact ⟨⟨j + 1, by omega, by go_num, H16⟩, by simp; omega⟩
            | true =>
              go_wp2
              exact ⟨⟨j + 1, by omega, by go_num, H16⟩, by simp; omega⟩
      · obtain rfl : j = 4 := by omega
        have d0 := HR.out.get ⟨D, 0, none⟩ (.slice cp C.length cc) (by simp)
        have d1 := HR.out.get ⟨D, 1, none⟩ (.int .i64 pt) (by simp)
        have d2 := HR.out.get ⟨D, 2, none⟩ (.slice bp B.length bc) (by simp)
        have e0 := HR.out.get ⟨X, 0, none⟩ (.int .i64 (k : Int)) (by simp)
        have e1 := HR.out.get ⟨X, 1, none⟩ (.int .i64 ky2) (by simp)
        have e2 := HR.out.get ⟨X, 2, none⟩ (.int .i64 C2) (by simp)
        have e3 := HR.out.get ⟨X, 3, none⟩ (.int .i64 Z2) (by simp)
        have Ji := J1.out 2 (by decide)
        rw [HF.out.1.2.2.1.1, HF.out.1.2.2.1.2.1, HF.out.1.2.2.1.2.2, HF.out.2.2] at Ji
        replace Ji := Lib.hid Ji
        go_wp2_with fail
        refine (Ji.out _ _ _ _ _ _ _ HR.out.b (own_VL HR.out.hK) (own_VL HR.out.hC) (own_VL HR.out.hB)).mono ?_
        rintro e w' ⟨rfl, b⟩
        have H16 := Lib.hid (HR.out.b.trans (b.mono HR.out.b.size)); clear b HR d0 d1 d2 e0 e1 e2 e3
        go_wp2
        go_ret
        exact ⟨rfl, H16.out⟩



  · skip
    go_simp
    have HX := Lib.hid (show w.heap.size + 3 ≤ W7.heap.size from hS.k.s)
    have hrow := heap_alloc_new W7.drew (.cells #[.int .i64 0, .int .i64 0, .int .i64 0, .int .i64 0] 28)
    have hlt := (Array.getElem?_eq_some_iff.1 hrow).1
    have hS2 := hS.next ((Below.refl _ W7.drew).alloc (Nat.le_refl _) (.cells #[.int .i64 0, .int .i64 0, .int .i64 0, .int .i64 0] 28))
    have hS0 := hS
    clear hS
    refine hKb.out _ _ hS2 (fun hS => ?_)
    clear hKb Kb hS2
    refine wpAnyH_ready (rs := [7]) (by kernel_rfl) (by simp) ?_
    refine AllReadyH.cons (o := { dst := some 59, op := Op.call { callee := Callee.value (Operand.func 14), args := #[Operand.tmp 56, Operand.tmp 57, Operand.tmp 58], argTypes := #[3, 34, 3] }, type := 28, pos := "more.go:22", after := #[{ on := 4, ground := Ground.data }, { on := 5, ground := Ground.data }, { on := 6, ground := Ground.data }], guard := none }) rfl (fun Ka hKa => ?_) AllReadyH.nil
    go_simp
    go_at_call 14
    refine (C2h.out _ _ _ _ _ hS.b).mono ?_
    rintro e w' ⟨rfl, b⟩
    have hS2 := hS.next b
    try go_simp
    replace hrow := (b.block _ hlt).trans hrow
    have hS3 := Below.setRow' (((Below.refl _ W7.drew).alloc (Nat.le_refl _) (.cells #[.int .i64 0, .int .i64 0, .int .i64 0, .int .i64 0] 28)).trans (b.mono (World.size_alloc _ _ ▸ Nat.le_succ _))) (Nat.le_refl W7.drew.heap.size) (#[.int .i64 (k : Int), .int .i64 ky2, .int .i64 C2, .int .i64 Z2])
    clear hS
    refine hKa.out _ _ hS2 (fun _ => ?_)
    clear hKa Ka hS2 b hlt
    refine wpAnyH_ready (rs := [9]) (by kernel_rfl) (by simp) ?_
    refine AllReadyH.cons (o := { dst := none, op := Op.store 28 (Operand.tmp 14) (Operand.tmp 59), type := 0, pos := "more.go:22", after := #[{ on := 8, ground := Ground.data }, { on := 7, ground := Ground.data }, { on := 7, ground := Ground.chain }, { on := 0, ground := Ground.phase }, { on := 1, ground := Ground.phase }, { on := 2, ground := Ground.phase }, { on := 3, ground := Ground.phase }, { on := 4, ground := Ground.phase }, { on := 5, ground := Ground.phase }, { on := 6, ground := Ground.phase }, { on := 7, ground := Ground.phase }, { on := 8, ground := Ground.phase }], guard := none }) rfl (fun K9 hK9 => ?_) AllReadyH.nil
    rw [if_pos (by rfl)]
    refine wp_store_row 28 (.tmp 14) (.tmp 59) rfl W7.drew.heap.size (#[.int .i64 (k : Int), .int .i64 ky2, .int .i64 C2, .int .i64 Z2]) (by first | rfl | (simp [Act.eval])) (by first | rfl | (simp [Act.eval])) 28 _ hrow (infoC _ _ _ _).out (four_sz _ _ _ _ rfl) (co_one _ _ _ _) ?_
    have hrow2 := setRow_heap _ _ _ (#[.int .i64 (k : Int), .int .i64 ky2, .int .i64 C2, .int .i64 Z2]) _ _ hrow
    clear hrow
    have hS2 := hS0.next hS3
    clear hS0 hS3
    refine hK9.out _ _ hS2 (fun hS => ?_)
    clear hK9 K9 hS2
    have hd : W7.drew.heap.size = W7.heap.size := rfl
    obtain ⟨X, hX⟩ : ∃ X, W7.heap.size = X := ⟨_, rfl⟩
    try rw [hd, hX] at hS
    try rw [hd, hX] at hrow2
    try rw [hd]
    rw [hX] at HX ⊢
    clear hd
    obtain ⟨W8, hW8⟩ : ∃ W8, w'.setRow X (#[.int .i64 (k : Int), .int .i64 ky2, .int .i64 C2, .int .i64 Z2]) = W8 := ⟨_, rfl⟩
    rw [hW8] at hS hrow2 ⊢
    clear hX hW8

    refine wpAnyH_done (by kernel_rfl) ?_ _
    have H8 := Lib.hid ((hS.rows X _ 28 _ rfl hrow2).sub (M := [(⟨X, 0, none⟩, .int .i64 (k : Int)), (⟨X, 1, none⟩, .int .i64 ky2), (⟨X, 2, none⟩, .int .i64 C2), (⟨X, 3, none⟩, .int .i64 Z2), (⟨A, 0, none⟩, .int .i64 (k : Int)), (⟨A, 1, none⟩, .int .i64 ky1), (⟨A, 2, none⟩, .int .i64 C1), (⟨A, 3, none⟩, .int .i64 Z1), (⟨D, 0, none⟩, .slice cp C.length cc), (⟨D, 1, none⟩, .int .i64 pt), (⟨D, 2, none⟩, .slice bp B.length bc), (⟨kb, ko + k, none⟩, .int .i64 kk), (⟨w.heap.size, 0, none⟩, .slice (some ⟨sb, so, none⟩) n c), (⟨w.heap.size, 1, none⟩, .slice q m e), (⟨w.heap.size, 2, none⟩, .string sd), (⟨w.heap.size + 1 + 1, 0, none⟩, .int .i64 q0), (⟨w.heap.size + 1 + 1, 1, none⟩, .int .i64 q1), (⟨sb, so + k, none⟩, .int .i64 sec)]) (by simp)); clear hS hrow2 H7
    have x0 := H8.out.get ⟨X, 0, none⟩ (.int .i64 (k : Int)) (by simp)
    have x1 := H8.out.get ⟨X, 1, none⟩ (.int .i64 ky2) (by simp)
    have x2 := H8.out.get ⟨X, 2, none⟩ (.int .i64 C2) (by simp)
    have x3 := H8.out.get ⟨X, 3, none⟩ (.int .i64 Z2) (by simp)
    try dsimp only [Act.put]
    go_upto_region 10 with fail
    clear x0 x1 x2 x3
    have hrow := heap_alloc_new W8 (.cells #[.int .i64 (k : Int), .int .i64 ky2, .int .i64 C2, .int .i64 Z2] 28)
    have hY := (Array.getElem?_eq_some_iff.1 hrow).1
    have b9 := (Below.refl W8.heap.size W8).alloc (Nat.le_refl _) (.cells #[.int .i64 (k : Int), .int .i64 ky2, .int .i64 C2, .int .i64 Z2] 28)
    obtain ⟨Y, eY⟩ : ∃ Y, W8.heap.size = Y := ⟨_, rfl⟩
    have hY8 : W8.heap.size ≤ Y := Nat.le_of_eq eY
    have HY := Lib.hid (Nat.le_trans H8.out.k.s hY8)
    obtain ⟨W9, eW⟩ : ∃ W9, W8.alloc (.cells #[.int .i64 (k : Int), .int .i64 ky2, .int .i64 C2, .int .i64 Z2] 28) = W9 := ⟨_, rfl⟩
    rw [eW] at hrow b9 hY ⊢
    rw [eY] at hrow hY ⊢
    clear eY eW
    have hS0 : BB W8 W9.drew := ⟨b9.drew⟩
    clear b9 hY
    replace hrow : W9.drew.heap[Y]? = _ := hrow
    refine wp_region_held_drew (S := BB W8) (by kernel_rfl) hS0 (fun hS => ?_)
    clear hS0
    refine wpAnyH_take (i := 0) (oi := { dst := some 61, op := Op.fieldAddr 28 (Operand.tmp 14) 1, type := 0, pos := "more.go:24", after := #[], guard := none }) (v := ?vxc0) rfl (by kernel_rfl) (by kernel_rfl) (by kernel_rfl) (fun _ _ _ h => h) (Or.inl ⟨by rfl, ?yxc0⟩) hS ?rxc0
    case yxc0 => (intro w hS; go_simp; try with_reducible rfl)
    refine wpAnyH_take (i := 2) (oi := { dst := some 63, op := Op.indexAddr 29 (Operand.tmp 5) (Operand.const (Value.int IntKind.i64 1)), type := 0, pos := "more.go:24", after := #[], guard := none }) (v := ?vxc2) rfl (by kernel_rfl) (by kernel_rfl) (by kernel_rfl) (fun _ _ _ h => h) (Or.inl ⟨by rfl, ?yxc2⟩) hS ?rxc2
    case yxc2 => (intro w hS; go_simp; try with_reducible rfl)
    go_simp
    refine wpAnyH_take (i := 1) (oi := { dst := some 62, op := Op.load 3 (Operand.tmp 61), type := 3, pos := "more.go:24", after := #[{ on := 0, ground := Ground.data }], guard := none }) (v := .int .i64 ky2) rfl (by kernel_rfl) (by kernel_rfl) (by kernel_rfl) (fun _ _ _ h => h) (Or.inl ⟨by rfl, ?yxc1⟩) hS ?rxc1
    case yxc1 => (intro w' hS; have cf := (H8.out.next hS.b).get ⟨X, 1, none⟩ (.int .i64 ky2) (by simp); go_simp; try with_reducible rfl)
    refine wpAnyH_take (i := 3) (oi := { dst := some 64, op := Op.load 3 (Operand.tmp 63), type := 3, pos := "more.go:24", after := #[{ on := 2, ground := Ground.data }], guard := none }) (v := .int .i64 q1) rfl (by kernel_rfl) (by kernel_rfl) (by kernel_rfl) (fun _ _ _ h => h) (Or.inl ⟨by rfl, ?yxc3⟩) hS ?rxc3
    case yxc3 => (intro w' hS; have cf := (H8.out.next hS.b).get ⟨w.heap.size + 1 + 1, 1, none⟩ (.int .i64 q1) (by simp); go_simp; try with_reducible rfl)
    go_simp
    refine wpAnyH_ready (rs := [4]) (by kernel_rfl) (by simp) ?_
    refine AllReadyH.cons (o := { dst := some 65, op := Op.call { callee := Callee.value (Operand.func 16), args := #[Operand.tmp 64], argTypes := #[3] }, type := 3, pos := "more.go:24", after := #[{ on := 3, ground := Ground.data }], guard := none }) rfl (fun K hK => ?_) AllReadyH.nil
    go_simp
    go_at_call 16
    refine (Md.out _).mono ?_
    rintro e w' ⟨rfl, b⟩
    replace hrow := (b.block _ (Array.getElem?_eq_some_iff.1 hrow).1).trans hrow
    have hS2 := hS.next b
    clear b hS
    try go_simp
    refine hK.out _ _ hS2 (fun hS => ?_)
    clear hK K hS2
    refine wpAnyH_ready (rs := [5]) (by kernel_rfl) (by simp) ?_
    refine AllReadyH.cons (o := { dst := some 66, op := Op.call { callee := Callee.value (Operand.func 15), args := #[Operand.tmp 62, Operand.tmp 65, Operand.const (Value.int IntKind.i64 2305843009213691579)], argTypes := #[3, 3, 3] }, type := 3, pos := "more.go:24", after := #[{ on := 1, ground := Ground.data }, { on := 4, ground := Ground.data }, { on := 4, ground := Ground.chain }], guard := none }) rfl (fun K hK => ?_) AllReadyH.nil
    go_simp
    go_at_call 15
    refine (Mu.out _).mono ?_
    rintro e w' ⟨rfl, b⟩
    replace hrow := (b.block _ (Array.getElem?_eq_some_iff.1 hrow).1).trans hrow
    have hS2 := hS.next b
    clear b hS
    try go_simp
    refine hK.out _ _ hS2 (fun hS => ?_)
    clear hK K hS2
    refine wpAnyH_take (i := 6) (oi := { dst := some 67, op := Op.fieldAddr 28 (Operand.tmp 15) 1, type := 0, pos := "more.go:24", after := #[{ on := 0, ground := Ground.phase }, { on := 1, ground := Ground.phase }, { on := 2, ground := Ground.phase }, { on := 3, ground := Ground.phase }, { on := 4, ground := Ground.phase }, { on := 5, ground := Ground.phase }], guard := none }) (v := ?vxc6) rfl (by kernel_rfl) (by kernel_rfl) (by kernel_rfl) (fun _ _ _ h => h) (Or.inl ⟨by rfl, ?yxc6⟩) hS ?rxc6
    case yxc6 => (intro w hS; go_simp; try with_reducible rfl)
    go_simp
    refine wpAnyH_ready (rs := [7]) (by kernel_rfl) (by simp) ?_
    refine AllReadyH.cons (o := { dst := none, op := Op.store 3 (Operand.tmp 67) (Operand.tmp 66), type := 0, pos := "more.go:24", after := #[{ on := 6, ground := Ground.data }, { on := 5, ground := Ground.data }, { on := 5, ground := Ground.chain }, { on := 0, ground := Ground.phase }, { on := 1, ground := Ground.phase }, { on := 2, ground := Ground.phase }, { on := 3, ground := Ground.phase }, { on := 4, ground := Ground.phase }, { on := 5, ground := Ground.phase }], guard := none }) rfl (fun K hK => ?_) AllReadyH.nil
    have cY := cell_of_row _ Y 1 _ _ _ hrow
    have fY := frz (j := 1) hrow
    go_simp
    have hrow2 := heap_setCell_same _ Y 1 _ _ (.int .i64 ky3) hrow
    have hS2 := BB.mk (hS.b.setCell (p := ⟨Y, 1, none⟩) (by show _ ≤ Y; omega) (.int .i64 ky3))
    clear hS cY fY hrow
    refine hK.out _ _ hS2 (fun hS => ?_)
    clear hK K hS2
    refine wpAnyH_done (by kernel_rfl) ?_ _
    have H10 := Lib.hid (((H8.out.next hS.b).rows Y _ 28 [Value.int .i64 (k : Int), Value.int .i64 ky3, Value.int .i64 C2, Value.int .i64 Z2] rfl hrow2).sub (M := [(⟨Y, 0, none⟩, .int .i64 (k : Int)), (⟨Y, 1, none⟩, .int .i64 ky3), (⟨Y, 2, none⟩, .int .i64 C2), (⟨Y, 3, none⟩, .int .i64 Z2), (⟨X, 0, none⟩, .int .i64 (k : Int)), (⟨X, 1, none⟩, .int .i64 ky2), (⟨X, 2, none⟩, .int .i64 C2), (⟨X, 3, none⟩, .int .i64 Z2), (⟨A, 0, none⟩, .int .i64 (k : Int)), (⟨A, 1, none⟩, .int .i64 ky1), (⟨A, 2, none⟩, .int .i64 C1), (⟨A, 3, none⟩, .int .i64 Z1), (⟨D, 0, none⟩, .slice cp C.length cc), (⟨D, 1, none⟩, .int .i64 pt), (⟨D, 2, none⟩, .slice bp B.length bc), (⟨kb, ko + k, none⟩, .int .i64 kk), (⟨w.heap.size, 0, none⟩, .slice (some ⟨sb, so, none⟩) n c), (⟨w.heap.size, 1, none⟩, .slice q m e), (⟨w.heap.size, 2, none⟩, .string sd), (⟨w.heap.size + 1 + 1, 0, none⟩, .int .i64 q0), (⟨w.heap.size + 1 + 1, 1, none⟩, .int .i64 q1), (⟨sb, so + k, none⟩, .int .i64 sec)]) (by simp)); clear hS hrow2 H8
    try dsimp only [Act.put]
    go_upto_region 11 with fail
    obtain ⟨W10, hW10⟩ : ∃ V, w'.setCell ⟨Y, 1, none⟩ (.int .i64 ky3) = V := ⟨_, rfl⟩
    rw [hW10] at H10 ⊢
    clear hW10
    have c0 := cell_of_row _ (w.heap.size + 1) 0 _ _ _ H10.out.k.rc
    have f0 := frz (j := 0) H10.out.k.rc
    go_upto_region 12 with fail
    have H11 := Lib.hid (H10.out.set (.int .i64 (k : Int)) (fun x hx => by
      have a1 := HN.out
      have a2 := HX.out
      have a3 := HY.out
      simp only [List.mem_cons, List.not_mem_nil, or_false] at hx
      rcases hx with rfl | rfl | rfl | rfl | rfl | rfl | rfl | rfl | rfl | rfl | rfl | rfl | rfl | rfl | rfl | rfl | rfl | rfl | rfl | rfl | rfl | rfl <;> (simp only [ne_eq]; omega)))
    clear c0 f0 H10 HX HY
    obtain ⟨W11, hW11⟩ : ∃ V, W10.setCell ⟨w.heap.size + 1, 0, none⟩ (.int .i64 (k : Int)) = V := ⟨_, rfl⟩
    rw [hW11] at H11 ⊢
    clear hW11
    have c0 := cell_of_row _ (w.heap.size + 1) 0 _ _ _ H11.out.k.rc
    have c1 := cell_of_row _ (w.heap.size + 1) 1 _ _ _ H11.out.k.rc
    have c2 := cell_of_row _ (w.heap.size + 1) 2 _ _ _ H11.out.k.rc
    have c3 := cell_of_row _ (w.heap.size + 1) 3 _ _ _ H11.out.k.rc
    have A0 := H11.out.get ⟨A, 0, none⟩ (.int .i64 (k : Int)) (by simp)
    have A1 := H11.out.get ⟨A, 1, none⟩ (.int .i64 ky1) (by simp)
    have A2 := H11.out.get ⟨A, 2, none⟩ (.int .i64 C1) (by simp)
    have A3 := H11.out.get ⟨A, 3, none⟩ (.int .i64 Z1) (by simp)
    have X0 := H11.out.get ⟨X, 0, none⟩ (.int .i64 (k : Int)) (by simp)
    have X1 := H11.out.get ⟨X, 1, none⟩ (.int .i64 ky2) (by simp)
    have X2 := H11.out.get ⟨X, 2, none⟩ (.int .i64 C2) (by simp)
    have X3 := H11.out.get ⟨X, 3, none⟩ (.int .i64 Z2) (by simp)
    have Y0 := H11.out.get ⟨Y, 0, none⟩ (.int .i64 (k : Int)) (by simp)
    have Y1 := H11.out.get ⟨Y, 1, none⟩ (.int .i64 ky3) (by simp)
    have Y2 := H11.out.get ⟨Y, 2, none⟩ (.int .i64 C2) (by simp)
    have Y3 := H11.out.get ⟨Y, 3, none⟩ (.int .i64 Z2) (by simp)
    go_wp2_with fail
    clear c0 c1 c2 c3 A0 A1 A2 A3 X0 X1 X2 X3 Y0 Y1 Y2 Y3
    have H12 := H11.out.cells #[.int .i64 (k : Int), .int .i64 ky, .int .i64 Cp, .int .i64 Z, .int .i64 (k : Int), .int .i64 ky1, .int .i64 C1, .int .i64 Z1, .int .i64 (k : Int), .int .i64 ky2, .int .i64 C2, .int .i64 Z2, .int .i64 (k : Int), .int .i64 ky3, .int .i64 C2, .int .i64 Z2] 28 _ rfl
    obtain ⟨G, hG⟩ : ∃ G, W11.heap.size = G := ⟨_, rfl⟩
    obtain ⟨W12, hW12⟩ : ∃ V, W11.alloc (.cells #[.int .i64 (k : Int), .int .i64 ky, .int .i64 Cp, .int .i64 Z, .int .i64 (k : Int), .int .i64 ky1, .int .i64 C1, .int .i64 Z1, .int .i64 (k : Int), .int .i64 ky2, .int .i64 C2, .int .i64 Z2, .int .i64 (k : Int), .int .i64 ky3, .int .i64 C2, .int .i64 Z2] 28) = V := ⟨_, rfl⟩
    rw [hW12] at H12 ⊢
    rw [hG] at H12 ⊢
    replace H12 := Lib.hid (H12.sub (M := [(⟨G, 0, none⟩, .int .i64 (k : Int)), (⟨G, 1, none⟩, .int .i64 ky), (⟨G, 2, none⟩, .int .i64 Cp), (⟨G, 3, none⟩, .int .i64 Z), (⟨G, 4, none⟩, .int .i64 (k : Int)), (⟨G, 5, none⟩, .int .i64 ky1), (⟨G, 6, none⟩, .int .i64 C1), (⟨G, 7, none⟩, .int .i64 Z1), (⟨G, 8, none⟩, .int .i64 (k : Int)), (⟨G, 9, none⟩, .int .i64 ky2), (⟨G, 10, none⟩, .int .i64 C2), (⟨G, 11, none⟩, .int .i64 Z2), (⟨G, 12, none⟩, .int .i64 (k : Int)), (⟨G, 13, none⟩, .int .i64 ky3), (⟨G, 14, none⟩, .int .i64 C2), (⟨G, 15, none⟩, .int .i64 Z2), (⟨X, 0, none⟩, .int .i64 (k : Int)), (⟨X, 1, none⟩, .int .i64 ky2), (⟨X, 2, none⟩, .int .i64 C2), (⟨X, 3, none⟩, .int .i64 Z2), (⟨D, 0, none⟩, .slice cp C.length cc), (⟨D, 1, none⟩, .int .i64 pt), (⟨D, 2, none⟩, .slice bp B.length bc), (⟨kb, ko + k, none⟩, .int .i64 kk), (⟨w.heap.size, 0, none⟩, .slice (some ⟨sb, so, none⟩) n c), (⟨w.heap.size, 1, none⟩, .slice q m e), (⟨w.heap.size, 2, none⟩, .string sd), (⟨w.heap.size + 1 + 1, 0, none⟩, .int .i64 q0), (⟨w.heap.size + 1 + 1, 1, none⟩, .int .i64 q1), (⟨sb, so + k, none⟩, .int .i64 sec)]) (by simp))
    clear hG hW12 H11
    go_loopw [76] (fun i wr => ∃ j : Nat, j ≤ 4 ∧ i = .int .i64 (j : Int) ∧ Hid (HT w [(⟨G, 0, none⟩, .int .i64 (k : Int)), (⟨G, 1, none⟩, .int .i64 ky), (⟨G, 2, none⟩, .int .i64 Cp), (⟨G, 3, none⟩, .int .i64 Z), (⟨G, 4, none⟩, .int .i64 (k : Int)), (⟨G, 5, none⟩, .int .i64 ky1), (⟨G, 6, none⟩, .int .i64 C1), (⟨G, 7, none⟩, .int .i64 Z1), (⟨G, 8, none⟩, .int .i64 (k : Int)), (⟨G, 9, none⟩, .int .i64 ky2), (⟨G, 10, none⟩, .int .i64 C2), (⟨G, 11, none⟩, .int .i64 Z2), (⟨G, 12, none⟩, .int .i64 (k : Int)), (⟨G, 13, none⟩, .int .i64 ky3), (⟨G, 14, none⟩, .int .i64 C2), (⟨G, 15, none⟩, .int .i64 Z2), (⟨X, 0, none⟩, .int .i64 (k : Int)), (⟨X, 1, none⟩, .int .i64 ky2), (⟨X, 2, none⟩, .int .i64 C2), (⟨X, 3, none⟩, .int .i64 Z2), (⟨D, 0, none⟩, .slice cp C.length cc), (⟨D, 1, none⟩, .int .i64 pt), (⟨D, 2, none⟩, .slice bp B.length bc), (⟨kb, ko + k, none⟩, .int .i64 kk), (⟨w.heap.size, 0, none⟩, .slice (some ⟨sb, so, none⟩) n c), (⟨w.heap.size, 1, none⟩, .slice q m e), (⟨w.heap.size, 2, none⟩, .string sd), (⟨w.heap.size + 1 + 1, 0, none⟩, .int .i64 q0), (⟨w.heap.size + 1 + 1, 1, none⟩, .int .i64 q1), (⟨sb, so + k, none⟩, .int .i64 sec)] (.slice (some ⟨kb, ko, none⟩) K.length kc) (.slice cp C.length cc) (.slice bp B.length bc) K C B #[.int .i64 (k : Int), .int .i64 ky, .int .i64 Cp, .int .i64 Z] wr)) (fun i _ => 4 - (match i with | .int _ i => i.toNat | _ => 0))
    case atStart => exact ⟨0, Nat.zero_le _, rfl, H12⟩
    case round =>
      clear H12
      obtain ⟨j, hj, rfl, HR⟩ := hrel
      by_cases hlt : j < 4
      · obtain ⟨e0, e1, e2, e3⟩ := elem4 HF.out.1 hlt HR.out.k.k
        obtain ⟨kyi, hkyi⟩ : ∃ x, kyF j = x := ⟨_, rfl⟩
        obtain ⟨Ci, hCi⟩ : ∃ x, CF j = x := ⟨_, rfl⟩
        obtain ⟨Zi, hZi⟩ : ∃ x, ZF j = x := ⟨_, rfl⟩
        obtain ⟨ji, hji⟩ : ∃ x, jF j = x := ⟨_, rfl⟩
        obtain ⟨ri, hri⟩ : ∃ x, rF j = x := ⟨_, rfl⟩
        have Vi := V1.out j hlt
        have Ji := J1.out j hlt
        have Fi := HF.out.2.1 j hlt
        rw [hkyi, hCi, hZi, hri] at Vi
        rw [hkyi, hCi, hZi, hji] at Ji
        rw [hkyi, hji, hri] at Fi
        rw [hkyi] at e1
        rw [hCi] at e2
        rw [hZi] at e3
        replace Vi := Lib.hid Vi
        replace Ji := Lib.hid Ji
        clear hkyi hCi hZi hji hri
        go_upto_region 15 with fail
        clear e0 e1 e2 e3
        have H14 := HR.out.cells #[.int .i64 (k : Int), .int .i64 kyi, .int .i64 Ci, .int .i64 Zi] 28 _ rfl
        obtain ⟨Q, hQ⟩ : ∃ Q, wr.heap.size = Q := ⟨_, rfl⟩
        obtain ⟨W14, hW14⟩ : ∃ V, wr.alloc (.cells #[.int .i64 (k : Int), .int .i64 kyi, .int .i64 Ci, .int .i64 Zi] 28) = V := ⟨_, rfl⟩
        rw [hW14] at H14 ⊢
        rw [hQ] at H14 ⊢
        replace H14 := Lib.hid (H14.sub (M := [(⟨Q, 0, none⟩, .int .i64 (k : Int)), (⟨Q, 1, none⟩, .int .i64 kyi), (⟨Q, 2, none⟩, .int .i64 Ci), (⟨Q, 3, none⟩, .int .i64 Zi), (⟨G, 0, none⟩, .int .i64 (k : Int)), (⟨G, 1, none⟩, .int .i64 ky), (⟨G, 2, none⟩, .int .i64 Cp), (⟨G, 3, none⟩, .int .i64 Z), (⟨G, 4, none⟩, .int .i64 (k : Int)), (⟨G, 5, none⟩, .int .i64 ky1), (⟨G, 6, none⟩, .int .i64 C1), (⟨G, 7, none⟩, .int .i64 Z1), (⟨G, 8, none⟩, .int .i64 (k : Int)), (⟨G, 9, none⟩, .int .i64 ky2), (⟨G, 10, none⟩, .int .i64 C2), (⟨G, 11, none⟩, .int .i64 Z2), (⟨G, 12, none⟩, .int .i64 (k : Int)), (⟨G, 13, none⟩, .int .i64 ky3), (⟨G, 14, none⟩, .int .i64 C2), (⟨G, 15, none⟩, .int .i64 Z2), (⟨X, 0, none⟩, .int .i64 (k : Int)), (⟨X, 1, none⟩, .int .i64 ky2), (⟨X, 2, none⟩, .int .i64 C2), (⟨X, 3, none⟩, .int .i64 Z2), (⟨D, 0, none⟩, .slice cp C.length cc), (⟨D, 1, none⟩, .int .i64 pt), (⟨D, 2, none⟩, .slice bp B.length bc), (⟨kb, ko + k, none⟩, .int .i64 kk), (⟨w.heap.size, 0, none⟩, .slice (some ⟨sb, so, none⟩) n c), (⟨w.heap.size, 1, none⟩, .slice q m e), (⟨w.heap.size, 2, none⟩, .string sd), (⟨w.heap.size + 1 + 1, 0, none⟩, .int .i64 q0), (⟨w.heap.size + 1 + 1, 1, none⟩, .int .i64 q1), (⟨sb, so + k, none⟩, .int .i64 sec)]) (by simp))
        clear hQ hW14 HR
        by_cases hsame : kyi = sh
        · have z1 : (kyi == sh) = true := by simp [hsame]
          have z2 : (kyi != sh) = false := by simp [hsame]
          have hj1 : (ji == 1) = false := by have := Fi.1 hsame; simpa using this
          clear Fi hsame Vi
          refine wp_region_held_drew (S := HT w [(⟨Q, 0, none⟩, .int .i64 (k : Int)), (⟨Q, 1, none⟩, .int .i64 kyi), (⟨Q, 2, none⟩, .int .i64 Ci), (⟨Q, 3, none⟩, .int .i64 Zi), (⟨G, 0, none⟩, .int .i64 (k : Int)), (⟨G, 1, none⟩, .int .i64 ky), (⟨G, 2, none⟩, .int .i64 Cp), (⟨G, 3, none⟩, .int .i64 Z), (⟨G, 4, none⟩, .int .i64 (k : Int)), (⟨G, 5, none⟩, .int .i64 ky1), (⟨G, 6, none⟩, .int .i64 C1), (⟨G, 7, none⟩, .int .i64 Z1), (⟨G, 8, none⟩, .int .i64 (k : Int)), (⟨G, 9, none⟩, .int .i64 ky2), (⟨G, 10, none⟩, .int .i64 C2), (⟨G, 11, none⟩, .int .i64 Z2), (⟨G, 12, none⟩, .int .i64 (k : Int)), (⟨G, 13, none⟩, .int .i64 ky3), (⟨G, 14, none⟩, .int .i64 C2), (⟨G, 15, none⟩, .int .i64 Z2), (⟨X, 0, none⟩, .int .i64 (k : Int)), (⟨X, 1, none⟩, .int .i64 ky2), (⟨X, 2, none⟩, .int .i64 C2), (⟨X, 3, none⟩, .int .i64 Z2), (⟨D, 0, none⟩, .slice cp C.length cc), (⟨D, 1, none⟩, .int .i64 pt), (⟨D, 2, none⟩, .slice bp B.length bc), (⟨kb, ko + k, none⟩, .int .i64 kk), (⟨w.heap.size, 0, none⟩, .slice (some ⟨sb, so, none⟩) n c), (⟨w.heap.size, 1, none⟩, .slice q m e), (⟨w.heap.size, 2, none⟩, .string sd), (⟨w.heap.size + 1 + 1, 0, none⟩, .int .i64 q0), (⟨w.heap.size + 1 + 1, 1, none⟩, .int .i64 q1), (⟨sb, so + k, none⟩, .int .i64 sec)] (.slice (some ⟨kb, ko, none⟩) K.length kc) (.slice cp C.length cc) (.slice bp B.length bc) K C B #[.int .i64 (k : Int), .int .i64 ky, .int .i64 Cp, .int .i64 Z]) (by kernel_rfl) H14.out.drew (fun hS => ?_)
          clear H14
          refine wpAnyH_take (i := 0) (oi := { dst := some 80, op := Op.fieldAddr 28 (Operand.tmp 17) 1, type := 0, pos := "more.go:27", after := #[], guard := none }) (v := ?vxd0) rfl (by kernel_rfl) (by kernel_rfl) (by kernel_rfl) (fun _ _ _ h => h) (Or.inl ⟨by rfl, ?yxd0⟩) hS ?rxd0
          case yxd0 => (intro w hS; go_simp; try with_reducible rfl)
          refine wpAnyH_take (i := 2) (oi := { dst := some 82, op := Op.fieldAddr 24 (Operand.tmp 3) 0, type := 0, pos := "more.go:27", after := #[], guard := none }) (v := ?vxd2) rfl (by kernel_rfl) (by kernel_rfl) (by kernel_rfl) (fun _ _ _ h => h) (Or.inl ⟨by rfl, ?yxd2⟩) hS ?rxd2
          case yxd2 => (intro w hS; go_simp; try with_reducible rfl)
          refine wpAnyH_take (i := 4) (oi := { dst := some 84, op := Op.move (Operand.tmp 12), type := 3, pos := "more.go:27", after := #[], guard := none }) (v := ?vxd4) rfl (by kernel_rfl) (by kernel_rfl) (by kernel_rfl) (fun _ _ _ h => h) (Or.inl ⟨by rfl, ?yxd4⟩) hS ?rxd4
          case yxd4 => (intro w hS; go_simp; try with_reducible rfl)
          refine wpAnyH_take (i := 7) (oi := { dst := some 87, op := Op.load 34 (Operand.tmp 10), type := 34, pos := "more.go:27", after := #[], guard := none }) (v := .agg #[.slice cp C.length cc, .int .i64 pt, .slice bp B.length bc]) rfl (by kernel_rfl) (by kernel_rfl) (by kernel_rfl) (fun _ _ _ h => h) (Or.inl ⟨by rfl, ?yxd7⟩) hS ?rxd7
          case yxd7 => (intro w' hS; have cf := (show w'.cell? ⟨D, 0, none⟩ = some (.slice cp C.length cc) ∧ w'.cell? ⟨D, 1, none⟩ = some (.int .i64 pt) ∧ w'.cell? ⟨D, 2, none⟩ = some (.slice bp B.length bc) from ⟨hS.get _ _ (by simp), hS.get _ _ (by simp), hS.get _ _ (by simp)⟩); go_simp; try with_reducible rfl)
          go_simp
          refine wpAnyH_take (i := 1) (oi := { dst := some 81, op := Op.load 3 (Operand.tmp 80), type := 3, pos := "more.go:27", after := #[{ on := 0, ground := Ground.data }], guard := none }) (v := .int .i64 kyi) rfl (by kernel_rfl) (by kernel_rfl) (by kernel_rfl) (fun _ _ _ h => h) (Or.inl ⟨by rfl, ?yxd1⟩) hS ?rxd1
          case yxd1 => (intro w' hS; have cf := hS.get ⟨Q, 1, none⟩ (.int .i64 kyi) (by simp); go_simp; try with_reducible rfl)
          refine wpAnyH_take (i := 3) (oi := { dst := some 83, op := Op.load 22 (Operand.tmp 82), type := 22, pos := "more.go:27", after := #[{ on := 2, ground := Ground.data }], guard := none }) (v := .slice (some ⟨sb, so, none⟩) n c) rfl (by kernel_rfl) (by kernel_rfl) (by kernel_rfl) (fun _ _ _ h => h) (Or.inl ⟨by rfl, ?yxd3⟩) hS ?rxd3
          case yxd3 => (intro w' hS; have cf := hS.get ⟨w.heap.size, 0, none⟩ (.slice (some ⟨sb, so, none⟩) n c) (by simp); go_simp; try with_reducible rfl)
          go_simp
          refine wpAnyH_take (i := 5) (oi := { dst := some 85, op := Op.indexAddr 22 (Operand.tmp 83) (Operand.tmp 84), type := 0, pos := "more.go:27", after := #[{ on := 3, ground := Ground.data }, { on := 4, ground := Ground.data }], guard := none }) (v := ?vxd5) rfl (by kernel_rfl) (by kernel_rfl) (by kernel_rfl) (fun _ _ _ h => h) (Or.inl ⟨by rfl, ?yxd5⟩) hS ?rxd5
          case yxd5 => (intro w hS; go_simp; try with_reducible rfl)
          go_simp
          refine wpAnyH_take (i := 6) (oi := { dst := some 86, op := Op.load 3 (Operand.tmp 85), type := 3, pos := "more.go:27", after := #[{ on := 5, ground := Ground.data }], guard := none }) (v := .int .i64 sec) rfl (by kernel_rfl) (by kernel_rfl) (by kernel_rfl) (fun _ _ _ h => h) (Or.inl ⟨by rfl, ?yxd6⟩) hS ?rxd6
          case yxd6 => (intro w' hS; have cf := hS.get ⟨sb, so + k, none⟩ (.int .i64 sec) (by simp); go_simp; try with_reducible rfl)
          go_simp
          refine wpAnyH_ready (rs := [8]) (by kernel_rfl) (by simp) ?_
          refine AllReadyH.cons (o := { dst := some 88, op := Op.call { callee := Callee.value (Operand.func 17), args := #[Operand.tmp 86, Operand.tmp 87], argTypes := #[3, 34] }, type := 3, pos := "more.go:27", after := #[{ on := 6, ground := Ground.data }, { on := 7, ground := Ground.data }], guard := none }) rfl (fun K hK => ?_) AllReadyH.nil
          go_simp
          go_at_call 17
          refine (Sh.out _ _ _ _ _).mono ?_
          rintro e w' ⟨rfl, b⟩
          have hS2 := hS.next b
          clear b hS
          try go_simp
          refine hK.out _ _ hS2 (fun hS => ?_)
          clear hK K hS2
          refine wpAnyH_take (i := 9) (oi := { dst := some 89, op := Op.binOp BinOp.neq 3 (Operand.tmp 81) (Operand.tmp 88) 3, type := 4, pos := "more.go:27", after := #[{ on := 1, ground := Ground.data }, { on := 8, ground := Ground.data }], guard := none }) (v := ?vxd9) rfl (by kernel_rfl) (by kernel_rfl) (by kernel_rfl) (fun _ _ _ h => h) (Or.inl ⟨by rfl, ?yxd9⟩) hS ?rxd9
          case yxd9 => (intro w hS; go_simp; try with_reducible rfl)
          go_simp
          refine wpAnyH_take (i := 10) (oi := { dst := some 90, op := Op.move (Operand.tmp 89), type := 4, pos := "more.go:27", after := #[{ on := 9, ground := Ground.data }, { on := 8, ground := Ground.chain }], guard := none }) (v := ?vxd10) rfl (by kernel_rfl) (by kernel_rfl) (by kernel_rfl) (fun _ _ _ h => h) (Or.inl ⟨by rfl, ?yxd10⟩) hS ?rxd10
          case yxd10 => (intro w hS; go_simp; try with_reducible rfl)
          go_simp
          refine wpAnyH_take (i := 11) (oi := { dst := some 91, op := Op.move (Operand.tmp 8), type := 22, pos := "more.go:27", after := #[{ on := 10, ground := Ground.guard }], guard := some (10, true) }) (v := undef) rfl (by kernel_rfl) (by kernel_rfl) (by kernel_rfl) (fun _ _ _ h => h) (Or.inr ⟨by rfl, rfl⟩) hS ?rxd11
          refine wpAnyH_take (i := 12) (oi := { dst := some 92, op := Op.move (Operand.tmp 12), type := 3, pos := "more.go:27", after := #[{ on := 10, ground := Ground.guard }], guard := some (10, true) }) (v := undef) rfl (by kernel_rfl) (by kernel_rfl) (by kernel_rfl) (fun _ _ _ h => h) (Or.inr ⟨by rfl, rfl⟩) hS ?rxd12
          refine wpAnyH_take (i := 15) (oi := { dst := some 95, op := Op.fieldAddr 34 (Operand.tmp 10) 1, type := 0, pos := "more.go:27", after := #[{ on := 10, ground := Ground.guard }], guard := some (10, true) }) (v := undef) rfl (by kernel_rfl) (by kernel_rfl) (by kernel_rfl) (fun _ _ _ h => h) (Or.inr ⟨by rfl, rfl⟩) hS ?rxd15
          refine wpAnyH_take (i := 17) (oi := { dst := some 97, op := Op.fieldAddr 28 (Operand.tmp 17) 1, type := 0, pos := "more.go:27", after := #[{ on := 10, ground := Ground.guard }], guard := some (10, true) }) (v := undef) rfl (by kernel_rfl) (by kernel_rfl) (by kernel_rfl) (fun _ _ _ h => h) (Or.inr ⟨by rfl, rfl⟩) hS ?rxd17
          refine wpAnyH_take (i := 19) (oi := { dst := some 99, op := Op.fieldAddr 28 (Operand.tmp 17) 2, type := 0, pos := "more.go:27", after := #[{ on := 10, ground := Ground.guard }], guard := some (10, true) }) (v := undef) rfl (by kernel_rfl) (by kernel_rfl) (by kernel_rfl) (fun _ _ _ h => h) (Or.inr ⟨by rfl, rfl⟩) hS ?rxd19
          go_simp
          refine wpAnyH_take (i := 13) (oi := { dst := some 93, op := Op.indexAddr 22 (Operand.tmp 91) (Operand.tmp 92), type := 0, pos := "more.go:27", after := #[{ on := 11, ground := Ground.data }, { on := 12, ground := Ground.data }, { on := 10, ground := Ground.guard }], guard := some (10, true) }) (v := undef) rfl (by kernel_rfl) (by kernel_rfl) (by kernel_rfl) (fun _ _ _ h => h) (Or.inr ⟨by rfl, rfl⟩) hS ?rxd13
          refine wpAnyH_take (i := 16) (oi := { dst := some 96, op := Op.load 3 (Operand.tmp 95), type := 3, pos := "more.go:27", after := #[{ on := 15, ground := Ground.data }, { on := 10, ground := Ground.guard }], guard := some (10, true) }) (v := undef) rfl (by kernel_rfl) (by kernel_rfl) (by kernel_rfl) (fun _ _ _ h => h) (Or.inr ⟨by rfl, rfl⟩) hS ?rxd16
          refine wpAnyH_take (i := 18) (oi := { dst := some 98, op := Op.load 3 (Operand.tmp 97), type := 3, pos := "more.go:27", after := #[{ on := 17, ground := Ground.data }, { on := 10, ground := Ground.guard }], guard := some (10, true) }) (v := undef) rfl (by kernel_rfl) (by kernel_rfl) (by kernel_rfl) (fun _ _ _ h => h) (Or.inr ⟨by rfl, rfl⟩) hS ?rxd18
          refine wpAnyH_take (i := 20) (oi := { dst := some 100, op := Op.load 26 (Operand.tmp 99), type := 26, pos := "more.go:27", after := #[{ on := 19, ground := Ground.data }, { on := 10, ground := Ground.guard }], guard := some (10, true) }) (v := undef) rfl (by kernel_rfl) (by kernel_rfl) (by kernel_rfl) (fun _ _ _ h => h) (Or.inr ⟨by rfl, rfl⟩) hS ?rxd20
          go_simp
          refine wpAnyH_take (i := 14) (oi := { dst := some 94, op := Op.load 3 (Operand.tmp 93), type := 3, pos := "more.go:27", after := #[{ on := 13, ground := Ground.data }, { on := 10, ground := Ground.guard }], guard := some (10, true) }) (v := undef) rfl (by kernel_rfl) (by kernel_rfl) (by kernel_rfl) (fun _ _ _ h => h) (Or.inr ⟨by rfl, rfl⟩) hS ?rxd14
          go_simp
          refine wpAnyH_take (i := 21) (oi := { dst := some 101, op := Op.call { callee := Callee.value (Operand.func 18), args := #[Operand.const (Value.int IntKind.i64 4), Operand.tmp 94, Operand.tmp 96, Operand.tmp 98, Operand.tmp 100], argTypes := #[3, 3, 3, 3, 26] }, type := 4, pos := "more.go:27", after := #[{ on := 14, ground := Ground.data }, { on := 16, ground := Ground.data }, { on := 18, ground := Ground.data }, { on := 20, ground := Ground.data }, { on := 10, ground := Ground.chain }, { on := 10, ground := Ground.guard }], guard := some (10, true) }) (v := undef) rfl (by kernel_rfl) (by kernel_rfl) (by kernel_rfl) (fun _ _ _ h => h) (Or.inr ⟨by rfl, rfl⟩) hS ?rxd21
          go_simp
          refine wpAnyH_take (i := 22) (oi := { dst := some 102, op := Op.pick (Operand.tmp 90) (Operand.tmp 101) (Operand.const (Value.bool false)), type := 4, pos := "more.go:27", after := #[{ on := 10, ground := Ground.data }, { on := 21, ground := Ground.data }], guard := none }) (v := ?vxd22) rfl (by kernel_rfl) (by kernel_rfl) (by kernel_rfl) (fun _ _ _ h => h) (Or.inl ⟨by rfl, ?yxd22⟩) hS ?rxd22
          case yxd22 => (intro w hS; go_simp; try with_reducible rfl)
          go_simp
          refine wpAnyH_take (i := 23) (oi := { dst := some 18, op := Op.assign (Operand.tmp 102), type := 4, pos := "more.go:27", after := #[{ on := 22, ground := Ground.data }, { on := 21, ground := Ground.chain }, { on := 0, ground := Ground.phase }, { on := 1, ground := Ground.phase }, { on := 2, ground := Ground.phase }, { on := 3, ground := Ground.phase }, { on := 4, ground := Ground.phase }, { on := 5, ground := Ground.phase }, { on := 6, ground := Ground.phase }, { on := 7, ground := Ground.phase }, { on := 8, ground := Ground.phase }, { on := 9, ground := Ground.phase }, { on := 10, ground := Ground.phase }, { on := 11, ground := Ground.phase }, { on := 12, ground := Ground.phase }, { on := 13, ground := Ground.phase }, { on := 14, ground := Ground.phase }, { on := 15, ground := Ground.phase }, { on := 16, ground := Ground.phase }, { on := 17, ground := Ground.phase }, { on := 18, ground := Ground.phase }, { on := 19, ground := Ground.phase }, { on := 20, ground := Ground.phase }, { on := 21, ground := Ground.phase }, { on := 22, ground := Ground.phase }], guard := none }) (v := ?vxd23) rfl (by kernel_rfl) (by kernel_rfl) (by kernel_rfl) (fun _ _ _ h => h) (Or.inl ⟨by rfl, ?yxd23⟩) hS ?rxd23
          case yxd23 => (intro w hS; go_simp; try with_reducible rfl)
          refine wpAnyH_done (by kernel_rfl) ?_ _
          have H15 := Lib.hid hS; clear hS
          try dsimp only [Act.put]
          have d0 := H15.out.get ⟨D, 0, none⟩ (.slice cp C.length cc) (by simp)
          have d1 := H15.out.get ⟨D, 1, none⟩ (.int .i64 pt) (by simp)
          have d2 := H15.out.get ⟨D, 2, none⟩ (.slice bp B.length bc) (by simp)
          have e0 := H15.out.get ⟨Q, 0, none⟩ (.int .i64 (k : Int)) (by simp)
          have e1 := H15.out.get ⟨Q, 1, none⟩ (.int .i64 kyi) (by simp)
          have e2 := H15.out.get ⟨Q, 2, none⟩ (.int .i64 Ci) (by simp)
          have e3 := H15.out.get ⟨Q, 3, none⟩ (.int .i64 Zi) (by simp)
          go_wp2_with fail
          refine (Ji.out _ _ _ _ _ _ _ H15.out.b (own_VL H15.out.hK) (own_VL H15.out.hC) (own_VL H15.out.hB)).mono ?_
          rintro e w' ⟨rfl, b⟩
          have H16 := Lib.hid ((H15.out.next b).sub (M := [(⟨G, 0, none⟩, .int .i64 (k : Int)), (⟨G, 1, none⟩, .int .i64 ky), (⟨G, 2, none⟩, .int .i64 Cp), (⟨G, 3, none⟩, .int .i64 Z), (⟨G, 4, none⟩, .int .i64 (k : Int)), (⟨G, 5, none⟩, .int .i64 ky1), (⟨G, 6, none⟩, .int .i64 C1), (⟨G, 7, none⟩, .int .i64 Z1), (⟨G, 8, none⟩, .int .i64 (k : Int)), (⟨G, 9, none⟩, .int .i64 ky2), (⟨G, 10, none⟩, .int .i64 C2), (⟨G, 11, none⟩, .int .i64 Z2), (⟨G, 12, none⟩, .int .i64 (k : Int)), (⟨G, 13, none⟩, .int .i64 ky3), (⟨G, 14, none⟩, .int .i64 C2), (⟨G, 15, none⟩, .int .i64 Z2), (⟨X, 0, none⟩, .int .i64 (k : Int)), (⟨X, 1, none⟩, .int .i64 ky2), (⟨X, 2, none⟩, .int .i64 C2), (⟨X, 3, none⟩, .int .i64 Z2), (⟨D, 0, none⟩, .slice cp C.length cc), (⟨D, 1, none⟩, .int .i64 pt), (⟨D, 2, none⟩, .slice bp B.length bc), (⟨kb, ko + k, none⟩, .int .i64 kk), (⟨w.heap.size, 0, none⟩, .slice (some ⟨sb, so, none⟩) n c), (⟨w.heap.size, 1, none⟩, .slice q m e), (⟨w.heap.size, 2, none⟩, .string sd), (⟨w.heap.size + 1 + 1, 0, none⟩, .int .i64 q0), (⟨w.heap.size + 1 + 1, 1, none⟩, .int .i64 q1), (⟨sb, so + k, none⟩, .int .i64 sec)]) (by simp)); clear b H15 d0 d1 d2 e0 e1 e2 e3
          go_wp2
          exact ⟨⟨j + 1, by omega, by go_num, H16⟩, by simp; omega⟩
        · have z1 : (kyi == sh) = false := by simp [hsame]
          have z2 : (kyi != sh) = true := by simp [hsame]
          refine wp_region_held_drew (S := HT w [(⟨Q, 0, none⟩, .int .i64 (k : Int)), (⟨Q, 1, none⟩, .int .i64 kyi), (⟨Q, 2, none⟩, .int .i64 Ci), (⟨Q, 3, none⟩, .int .i64 Zi), (⟨G, 0, none⟩, .int .i64 (k : Int)), (⟨G, 1, none⟩, .int .i64 ky), (⟨G, 2, none⟩, .int .i64 Cp), (⟨G, 3, none⟩, .int .i64 Z), (⟨G, 4, none⟩, .int .i64 (k : Int)), (⟨G, 5, none⟩, .int .i64 ky1), (⟨G, 6, none⟩, .int .i64 C1), (⟨G, 7, none⟩, .int .i64 Z1), (⟨G, 8, none⟩, .int .i64 (k : Int)), (⟨G, 9, none⟩, .int .i64 ky2), (⟨G, 10, none⟩, .int .i64 C2), (⟨G, 11, none⟩, .int .i64 Z2), (⟨G, 12, none⟩, .int .i64 (k : Int)), (⟨G, 13, none⟩, .int .i64 ky3), (⟨G, 14, none⟩, .int .i64 C2), (⟨G, 15, none⟩, .int .i64 Z2), (⟨X, 0, none⟩, .int .i64 (k : Int)), (⟨X, 1, none⟩, .int .i64 ky2), (⟨X, 2, none⟩, .int .i64 C2), (⟨X, 3, none⟩, .int .i64 Z2), (⟨D, 0, none⟩, .slice cp C.length cc), (⟨D, 1, none⟩, .int .i64 pt), (⟨D, 2, none⟩, .slice bp B.length bc), (⟨kb, ko + k, none⟩, .int .i64 kk), (⟨w.heap.size, 0, none⟩, .slice (some ⟨sb, so, none⟩) n c), (⟨w.heap.size, 1, none⟩, .slice q m e), (⟨w.heap.size, 2, none⟩, .string sd), (⟨w.heap.size + 1 + 1, 0, none⟩, .int .i64 q0), (⟨w.heap.size + 1 + 1, 1, none⟩, .int .i64 q1), (⟨sb, so + k, none⟩, .int .i64 sec)] (.slice (some ⟨kb, ko, none⟩) K.length kc) (.slice cp C.length cc) (.slice bp B.length bc) K C B #[.int .i64 (k : Int), .int .i64 ky, .int .i64 Cp, .int .i64 Z]) (by kernel_rfl) H14.out.drew (fun hS => ?_)
          clear H14
          refine wpAnyH_take (i := 0) (oi := { dst := some 80, op := Op.fieldAddr 28 (Operand.tmp 17) 1, type := 0, pos := "more.go:27", after := #[], guard := none }) (v := ?vxe0) rfl (by kernel_rfl) (by kernel_rfl) (by kernel_rfl) (fun _ _ _ h => h) (Or.inl ⟨by rfl, ?yxe0⟩) hS ?rxe0
          case yxe0 => (intro w hS; go_simp; try with_reducible rfl)
          refine wpAnyH_take (i := 2) (oi := { dst := some 82, op := Op.fieldAddr 24 (Operand.tmp 3) 0, type := 0, pos := "more.go:27", after := #[], guard := none }) (v := ?vxe2) rfl (by kernel_rfl) (by kernel_rfl) (by kernel_rfl) (fun _ _ _ h => h) (Or.inl ⟨by rfl, ?yxe2⟩) hS ?rxe2
          case yxe2 => (intro w hS; go_simp; try with_reducible rfl)
          refine wpAnyH_take (i := 4) (oi := { dst := some 84, op := Op.move (Operand.tmp 12), type := 3, pos := "more.go:27", after := #[], guard := none }) (v := ?vxe4) rfl (by kernel_rfl) (by kernel_rfl) (by kernel_rfl) (fun _ _ _ h => h) (Or.inl ⟨by rfl, ?yxe4⟩) hS ?rxe4
          case yxe4 => (intro w hS; go_simp; try with_reducible rfl)
          refine wpAnyH_take (i := 7) (oi := { dst := some 87, op := Op.load 34 (Operand.tmp 10), type := 34, pos := "more.go:27", after := #[], guard := none }) (v := .agg #[.slice cp C.length cc, .int .i64 pt, .slice bp B.length bc]) rfl (by kernel_rfl) (by kernel_rfl) (by kernel_rfl) (fun _ _ _ h => h) (Or.inl ⟨by rfl, ?yxe7⟩) hS ?rxe7
          case yxe7 => (intro w' hS; have cf := (show w'.cell? ⟨D, 0, none⟩ = some (.slice cp C.length cc) ∧ w'.cell? ⟨D, 1, none⟩ = some (.int .i64 pt) ∧ w'.cell? ⟨D, 2, none⟩ = some (.slice bp B.length bc) from ⟨hS.get _ _ (by simp), hS.get _ _ (by simp), hS.get _ _ (by simp)⟩); go_simp; try with_reducible rfl)
          go_simp
          refine wpAnyH_take (i := 1) (oi := { dst := some 81, op := Op.load 3 (Operand.tmp 80), type := 3, pos := "more.go:27", after := #[{ on := 0, ground := Ground.data }], guard := none }) (v := .int .i64 kyi) rfl (by kernel_rfl) (by kernel_rfl) (by kernel_rfl) (fun _ _ _ h => h) (Or.inl ⟨by rfl, ?yxe1⟩) hS ?rxe1
          case yxe1 => (intro w' hS; have cf := hS.get ⟨Q, 1, none⟩ (.int .i64 kyi) (by simp); go_simp; try with_reducible rfl)
          refine wpAnyH_take (i := 3) (oi := { dst := some 83, op := Op.load 22 (Operand.tmp 82), type := 22, pos := "more.go:27", after := #[{ on := 2, ground := Ground.data }], guard := none }) (v := .slice (some ⟨sb, so, none⟩) n c) rfl (by kernel_rfl) (by kernel_rfl) (by kernel_rfl) (fun _ _ _ h => h) (Or.inl ⟨by rfl, ?yxe3⟩) hS ?rxe3
          case yxe3 => (intro w' hS; have cf := hS.get ⟨w.heap.size, 0, none⟩ (.slice (some ⟨sb, so, none⟩) n c) (by simp); go_simp; try with_reducible rfl)
          go_simp
          refine wpAnyH_take (i := 5) (oi := { dst := some 85, op := Op.indexAddr 22 (Operand.tmp 83) (Operand.tmp 84), type := 0, pos := "more.go:27", after := #[{ on := 3, ground := Ground.data }, { on := 4, ground := Ground.data }], guard := none }) (v := ?vxe5) rfl (by kernel_rfl) (by kernel_rfl) (by kernel_rfl) (fun _ _ _ h => h) (Or.inl ⟨by rfl, ?yxe5⟩) hS ?rxe5
          case yxe5 => (intro w hS; go_simp; try with_reducible rfl)
          go_simp
          refine wpAnyH_take (i := 6) (oi := { dst := some 86, op := Op.load 3 (Operand.tmp 85), type := 3, pos := "more.go:27", after := #[{ on := 5, ground := Ground.data }], guard := none }) (v := .int .i64 sec) rfl (by kernel_rfl) (by kernel_rfl) (by kernel_rfl) (fun _ _ _ h => h) (Or.inl ⟨by rfl, ?yxe6⟩) hS ?rxe6
          case yxe6 => (intro w' hS; have cf := hS.get ⟨sb, so + k, none⟩ (.int .i64 sec) (by simp); go_simp; try with_reducible rfl)
          go_simp
          refine wpAnyH_ready (rs := [8]) (by kernel_rfl) (by simp) ?_
          refine AllReadyH.cons (o := { dst := some 88, op := Op.call { callee := Callee.value (Operand.func 17), args := #[Operand.tmp 86, Operand.tmp 87], argTypes := #[3, 34] }, type := 3, pos := "more.go:27", after := #[{ on := 6, ground := Ground.data }, { on := 7, ground := Ground.data }], guard := none }) rfl (fun K hK => ?_) AllReadyH.nil
          go_simp
          go_at_call 17
          refine (Sh.out _ _ _ _ _).mono ?_
          rintro e w' ⟨rfl, b⟩
          have hS2 := hS.next b
          clear b hS
          try go_simp
          refine hK.out _ _ hS2 (fun hS => ?_)
          clear hK K hS2
          refine wpAnyH_take (i := 9) (oi := { dst := some 89, op := Op.binOp BinOp.neq 3 (Operand.tmp 81) (Operand.tmp 88) 3, type := 4, pos := "more.go:27", after := #[{ on := 1, ground := Ground.data }, { on := 8, ground := Ground.data }], guard := none }) (v := ?vxe9) rfl (by kernel_rfl) (by kernel_rfl) (by kernel_rfl) (fun _ _ _ h => h) (Or.inl ⟨by rfl, ?yxe9⟩) hS ?rxe9
          case yxe9 => (intro w hS; go_simp; try with_reducible rfl)
          go_simp
          refine wpAnyH_take (i := 10) (oi := { dst := some 90, op := Op.move (Operand.tmp 89), type := 4, pos := "more.go:27", after := #[{ on := 9, ground := Ground.data }, { on := 8, ground := Ground.chain }], guard := none }) (v := ?vxe10) rfl (by kernel_rfl) (by kernel_rfl) (by kernel_rfl) (fun _ _ _ h => h) (Or.inl ⟨by rfl, ?yxe10⟩) hS ?rxe10
          case yxe10 => (intro w hS; go_simp; try with_reducible rfl)
          go_simp
          refine wpAnyH_take (i := 11) (oi := { dst := some 91, op := Op.move (Operand.tmp 8), type := 22, pos := "more.go:27", after := #[{ on := 10, ground := Ground.guard }], guard := some (10, true) }) (v := ?vxe11) rfl (by kernel_rfl) (by kernel_rfl) (by kernel_rfl) (fun _ _ _ h => h) (Or.inl ⟨by rfl, ?yxe11⟩) hS ?rxe11
          case yxe11 => (intro w hS; go_simp; try with_reducible rfl)
          refine wpAnyH_take (i := 12) (oi := { dst := some 92, op := Op.move (Operand.tmp 12), type := 3, pos := "more.go:27", after := #[{ on := 10, ground := Ground.guard }], guard := some (10, true) }) (v := ?vxe12) rfl (by kernel_rfl) (by kernel_rfl) (by kernel_rfl) (fun _ _ _ h => h) (Or.inl ⟨by rfl, ?yxe12⟩) hS ?rxe12
          case yxe12 => (intro w hS; go_simp; try with_reducible rfl)
          refine wpAnyH_take (i := 15) (oi := { dst := some 95, op := Op.fieldAddr 34 (Operand.tmp 10) 1, type := 0, pos := "more.go:27", after := #[{ on := 10, ground := Ground.guard }], guard := some (10, true) }) (v := ?vxe15) rfl (by kernel_rfl) (by kernel_rfl) (by kernel_rfl) (fun _ _ _ h => h) (Or.inl ⟨by rfl, ?yxe15⟩) hS ?rxe15
          case yxe15 => (intro w hS; go_simp; try with_reducible rfl)
          refine wpAnyH_take (i := 17) (oi := { dst := some 97, op := Op.fieldAddr 28 (Operand.tmp 17) 1, type := 0, pos := "more.go:27", after := #[{ on := 10, ground := Ground.guard }], guard := some (10, true) }) (v := ?vxe17) rfl (by kernel_rfl) (by kernel_rfl) (by kernel_rfl) (fun _ _ _ h => h) (Or.inl ⟨by rfl, ?yxe17⟩) hS ?rxe17
          case yxe17 => (intro w hS; go_simp; try with_reducible rfl)
          refine wpAnyH_take (i := 19) (oi := { dst := some 99, op := Op.fieldAddr 28 (Operand.tmp 17) 2, type := 0, pos := "more.go:27", after := #[{ on := 10, ground := Ground.guard }], guard := some (10, true) }) (v := ?vxe19) rfl (by kernel_rfl) (by kernel_rfl) (by kernel_rfl) (fun _ _ _ h => h) (Or.inl ⟨by rfl, ?yxe19⟩) hS ?rxe19
          case yxe19 => (intro w hS; go_simp; try with_reducible rfl)
          go_simp
          refine wpAnyH_take (i := 13) (oi := { dst := some 93, op := Op.indexAddr 22 (Operand.tmp 91) (Operand.tmp 92), type := 0, pos := "more.go:27", after := #[{ on := 11, ground := Ground.data }, { on := 12, ground := Ground.data }, { on := 10, ground := Ground.guard }], guard := some (10, true) }) (v := ?vxe13) rfl (by kernel_rfl) (by kernel_rfl) (by kernel_rfl) (fun _ _ _ h => h) (Or.inl ⟨by rfl, ?yxe13⟩) hS ?rxe13
          case yxe13 => (intro w hS; go_simp; try with_reducible rfl)
          refine wpAnyH_take (i := 16) (oi := { dst := some 96, op := Op.load 3 (Operand.tmp 95), type := 3, pos := "more.go:27", after := #[{ on := 15, ground := Ground.data }, { on := 10, ground := Ground.guard }], guard := some (10, true) }) (v := .int .i64 pt) rfl (by kernel_rfl) (by kernel_rfl) (by kernel_rfl) (fun _ _ _ h => h) (Or.inl ⟨by rfl, ?yxe16⟩) hS ?rxe16
          case yxe16 => (intro w' hS; have cf := hS.get ⟨D, 1, none⟩ (.int .i64 pt) (by simp); go_simp; try with_reducible rfl)
          refine wpAnyH_take (i := 18) (oi := { dst := some 98, op := Op.load 3 (Operand.tmp 97), type := 3, pos := "more.go:27", after := #[{ on := 17, ground := Ground.data }, { on := 10, ground := Ground.guard }], guard := some (10, true) }) (v := .int .i64 kyi) rfl (by kernel_rfl) (by kernel_rfl) (by kernel_rfl) (fun _ _ _ h => h) (Or.inl ⟨by rfl, ?yxe18⟩) hS ?rxe18
          case yxe18 => (intro w' hS; have cf := hS.get ⟨Q, 1, none⟩ (.int .i64 kyi) (by simp); go_simp; try with_reducible rfl)
          refine wpAnyH_take (i := 20) (oi := { dst := some 100, op := Op.load 26 (Operand.tmp 99), type := 26, pos := "more.go:27", after := #[{ on := 19, ground := Ground.data }, { on := 10, ground := Ground.guard }], guard := some (10, true) }) (v := .agg #[.int .i64 Ci, .int .i64 Zi]) rfl (by kernel_rfl) (by kernel_rfl) (by kernel_rfl) (fun _ _ _ h => h) (Or.inl ⟨by rfl, ?yxe20⟩) hS ?rxe20
          case yxe20 => (intro w' hS; have cf := (show w'.cell? ⟨Q, 2, none⟩ = some (.int .i64 Ci) ∧ w'.cell? ⟨Q, 3, none⟩ = some (.int .i64 Zi) from ⟨hS.get _ _ (by simp), hS.get _ _ (by simp)⟩); go_simp; try with_reducible rfl)
          go_simp
          refine wpAnyH_take (i := 14) (oi := { dst := some 94, op := Op.load 3 (Operand.tmp 93), type := 3, pos := "more.go:27", after := #[{ on := 13, ground := Ground.data }, { on := 10, ground := Ground.guard }], guard := some (10, true) }) (v := .int .i64 kk) rfl (by kernel_rfl) (by kernel_rfl) (by kernel_rfl) (fun _ _ _ h => h) (Or.inl ⟨by rfl, ?yxe14⟩) hS ?rxe14
          case yxe14 => (intro w' hS; have cf := hS.get ⟨kb, ko + k, none⟩ (.int .i64 kk) (by simp); go_simp; try with_reducible rfl)
          go_simp
          refine wpAnyH_ready (rs := [21]) (by kernel_rfl) (by simp) ?_
          refine AllReadyH.cons (o := { dst := some 101, op := Op.call { callee := Callee.value (Operand.func 18), args := #[Operand.const (Value.int IntKind.i64 4), Operand.tmp 94, Operand.tmp 96, Operand.tmp 98, Operand.tmp 100], argTypes := #[3, 3, 3, 3, 26] }, type := 4, pos := "more.go:27", after := #[{ on := 14, ground := Ground.data }, { on := 16, ground := Ground.data }, { on := 18, ground := Ground.data }, { on := 20, ground := Ground.data }, { on := 10, ground := Ground.chain }, { on := 10, ground := Ground.guard }], guard := some (10, true) }) rfl (fun K hK => ?_) AllReadyH.nil
          go_simp
          go_at_call 18
          refine (Vi.out _ hS.b).mono ?_
          rintro e w' ⟨rfl, b⟩
          have hS2 := hS.next b
          clear b hS
          try go_simp
          refine hK.out _ _ hS2 (fun hS => ?_)
          clear hK K hS2
          refine wpAnyH_take (i := 22) (oi := { dst := some 102, op := Op.pick (Operand.tmp 90) (Operand.tmp 101) (Operand.const (Value.bool false)), type := 4, pos := "more.go:27", after := #[{ on := 10, ground := Ground.data }, { on := 21, ground := Ground.data }], guard := none }) (v := ?vxe22) rfl (by kernel_rfl) (by kernel_rfl) (by kernel_rfl) (fun _ _ _ h => h) (Or.inl ⟨by rfl, ?yxe22⟩) hS ?rxe22
          case yxe22 => (intro w hS; go_simp; try with_reducible rfl)
          go_simp
          refine wpAnyH_take (i := 23) (oi := { dst := some 18, op := Op.assign (Operand.tmp 102), type := 4, pos := "more.go:27", after := #[{ on := 22, ground := Ground.data }, { on := 21, ground := Ground.chain }, { on := 0, ground := Ground.phase }, { on := 1, ground := Ground.phase }, { on := 2, ground := Ground.phase }, { on := 3, ground := Ground.phase }, { on := 4, ground := Ground.phase }, { on := 5, ground := Ground.phase }, { on := 6, ground := Ground.phase }, { on := 7, ground := Ground.phase }, { on := 8, ground := Ground.phase }, { on := 9, ground := Ground.phase }, { on := 10, ground := Ground.phase }, { on := 11, ground := Ground.phase }, { on := 12, ground := Ground.phase }, { on := 13, ground := Ground.phase }, { on := 14, ground := Ground.phase }, { on := 15, ground := Ground.phase }, { on := 16, ground := Ground.phase }, { on := 17, ground := Ground.phase }, { on := 18, ground := Ground.phase }, { on := 19, ground := Ground.phase }, { on := 20, ground := Ground.phase }, { on := 21, ground := Ground.phase }, { on := 22, ground := Ground.phase }], guard := none }) (v := ?vxe23) rfl (by kernel_rfl) (by kernel_rfl) (by kernel_rfl) (fun _ _ _ h => h) (Or.inl ⟨by rfl, ?yxe23⟩) hS ?rxe23
          case yxe23 => (intro w hS; go_simp; try with_reducible rfl)
          refine wpAnyH_done (by kernel_rfl) ?_ _
          have H15 := Lib.hid hS; clear hS
          try dsimp only [Act.put]
          have d0 := H15.out.get ⟨D, 0, none⟩ (.slice cp C.length cc) (by simp)
          have d1 := H15.out.get ⟨D, 1, none⟩ (.int .i64 pt) (by simp)
          have d2 := H15.out.get ⟨D, 2, none⟩ (.slice bp B.length bc) (by simp)
          have e0 := H15.out.get ⟨Q, 0, none⟩ (.int .i64 (k : Int)) (by simp)
          have e1 := H15.out.get ⟨Q, 1, none⟩ (.int .i64 kyi) (by simp)
          have e2 := H15.out.get ⟨Q, 2, none⟩ (.int .i64 Ci) (by simp)
          have e3 := H15.out.get ⟨Q, 3, none⟩ (.int .i64 Zi) (by simp)
          go_wp2_with fail
          refine (Ji.out _ _ _ _ _ _ _ H15.out.b (own_VL H15.out.hK) (own_VL H15.out.hC) (own_VL H15.out.hB)).mono ?_
          rintro e w' ⟨rfl, b⟩
          have H16 := Lib.hid ((H15.out.next b).sub (M := [(⟨G, 0, none⟩, .int .i64 (k : Int)), (⟨G, 1, none⟩, .int .i64 ky), (⟨G, 2, none⟩, .int .i64 Cp), (⟨G, 3, none⟩, .int .i64 Z), (⟨G, 4, none⟩, .int .i64 (k : Int)), (⟨G, 5, none⟩, .int .i64 ky1), (⟨G, 6, none⟩, .int .i64 C1), (⟨G, 7, none⟩, .int .i64 Z1), (⟨G, 8, none⟩, .int .i64 (k : Int)), (⟨G, 9, none⟩, .int .i64 ky2), (⟨G, 10, none⟩, .int .i64 C2), (⟨G, 11, none⟩, .int .i64 Z2), (⟨G, 12, none⟩, .int .i64 (k : Int)), (⟨G, 13, none⟩, .int .i64 ky3), (⟨G, 14, none⟩, .int .i64 C2), (⟨G, 15, none⟩, .int .i64 Z2), (⟨X, 0, none⟩, .int .i64 (k : Int)), (⟨X, 1, none⟩, .int .i64 ky2), (⟨X, 2, none⟩, .int .i64 C2), (⟨X, 3, none⟩, .int .i64 Z2), (⟨D, 0, none⟩, .slice cp C.length cc), (⟨D, 1, none⟩, .int .i64 pt), (⟨D, 2, none⟩, .slice bp B.length bc), (⟨kb, ko + k, none⟩, .int .i64 kk), (⟨w.heap.size, 0, none⟩, .slice (some ⟨sb, so, none⟩) n c), (⟨w.heap.size, 1, none⟩, .slice q m e), (⟨w.heap.size, 2, none⟩, .string sd), (⟨w.heap.size + 1 + 1, 0, none⟩, .int .i64 q0), (⟨w.heap.size + 1 + 1, 1, none⟩, .int .i64 q1), (⟨sb, so + k, none⟩, .int .i64 sec)]) (by simp)); clear b H15 d0 d1 d2 e0 e1 e2 e3
          cases ri with
          | false =>
            have hj1 : (ji == 1) = false := by have := Fi.2 rfl; simpa using this
            go_wp2
            exact ⟨⟨j + 1, by omega, by go_num, H16⟩, by simp; omega⟩
          | true =>
            cases hj1 : (ji == 1) with
            | false =>
              go_wp2
              exact ⟨⟨j + 1, by omega, by go_num, H16⟩, by simp; omega⟩
            | true =>
              go_wp2
              exact ⟨⟨j + 1, by omega, by go_num, H16⟩, by simp; omega⟩
      · obtain rfl : j = 4 := by omega
        have d0 := HR.out.get ⟨D, 0, none⟩ (.slice cp C.length cc) (by simp)
        have d1 := HR.out.get ⟨D, 1, none⟩ (.int .i64 pt) (by simp)
        have d2 := HR.out.get ⟨D, 2, none⟩ (.slice bp B.length bc) (by simp)
        have e0 := HR.out.get ⟨X, 0, none⟩ (.int .i64 (k : Int)) (by simp)
        have e1 := HR.out.get ⟨X, 1, none⟩ (.int .i64 ky2) (by simp)
        have e2 := HR.out.get ⟨X, 2, none⟩ (.int .i64 C2) (by simp)
        have e3 := HR.out.get ⟨X, 3, none⟩ (.int .i64 Z2) (by simp)
        have Ji := J1.out 2 (by decide)
        rw [HF.out.1.2.2.1.1, HF.out.1.2.2.1.2.1, HF.out.1.2.2.1.2.2, HF.out.2.2] at Ji
        replace Ji := Lib.hid Ji
        go_wp2_with fail
        refine (Ji.out _ _ _ _ _ _ _ HR.out.b (own_VL HR.out.hK) (own_VL HR.out.hC) (own_VL HR.out.hB)).mono ?_
        rintro e w' ⟨rfl, b⟩
        have H16 := Lib.hid (HR.out.b.trans (b.mono HR.out.b.size)); clear b HR d0 d1 d2 e0 e1 e2 e3
        go_wp2
        go_ret
        exact ⟨rfl, H16.out⟩



end Go.Proofs.YtjfbpmpdcmealaaGreatDoor.D7
