/-
  The walks of bits.RotateLeft32 and of both packages' rot.
  The walk of digest.schedule: the words of a block.
-/
import Derived.Test.YtbfplapjjeeceaaGreatDoorChecked
import Derived.Test.YtbfplapjjeeceaaGreatDoorShaMath
import Derived.WalkKit
import Derived.WalkSpells
import Derived.WalkLawsBesides
import Derived.Handy
import Derived.Outline
import Derived.Lib.Hide
import Derived.Laws.Rows
import Derived.Laws.Tables
import Derived.Laws.Externs
import Derived.Laws.BitsAllLaws
namespace Go.Proofs.YtbfplapjjeeceaaGreatDoor
open Go.RowKit SH
abbrev wd (x : Nat) : Value := .int .u32 (x : Nat)
theorem and31 : ∀ n : Nat, n < 32 → 1 ≤ n → bits .and .u64 (IntKind.u64.wrap (-(n : Int))) 31 = ((32 - n : Nat) : Int) := by decide
theorem ret_rot {x n s : Nat} (hx : x < M) (hs : 32 - n = s) (h2 : n ≤ 31) : Ending.returned (.int .u32 (bits .or .u32 ((x : Int) * 2 ^ s % 4294967296) ((x : Int) / 2 ^ (32 - s)))) = .returned (wd (rr x n)) := by
  have e1 : (x : Int) * 2 ^ s % 4294967296 = ((x * 2 ^ s % M : Nat) : Int) := by unfold M; simp
  have e2 : (x : Int) / 2 ^ (32 - s) = ((x / 2 ^ (32 - s) : Nat) : Int) := by simp
  rw [e1, e2, u32_or_nat _ _ (Nat.mod_lt _ (by decide)) (Nat.lt_of_le_of_lt (Nat.div_le_self _ _) hx), Nat.or_comm]
  unfold rr wd
  rw [hs, show 32 - s = n by omega]
theorem ret_rot2 {x n s : Nat} (hx : x < M) (hs : 32 - n = s) (_h2 : n ≤ 31) : Ending.returned (.int .u32 (bits .or .u32 ((x : Int) / 2 ^ n) ((x : Int) * 2 ^ s % 4294967296))) = .returned (wd (rr x n)) := by
  have e1 : (x : Int) * 2 ^ s % 4294967296 = ((x * 2 ^ s % M : Nat) : Int) := by unfold M; simp
  have e2 : (x : Int) / 2 ^ n = ((x / 2 ^ n : Nat) : Int) := by simp
  rw [e1, e2, u32_or_nat _ _ (Nat.lt_of_le_of_lt (Nat.div_le_self _ _) hx) (Nat.mod_lt _ (by decide))]
  unfold rr wd
  rw [hs]
theorem RotateLeft32_any (w : World) (x : Nat) (n : Nat) (hx : x < M) (h1 : 1 ≤ n) (h2 : n ≤ 31) :
    Calls Tryz.prog 170 #[.int .u32 (x : Nat), .int .i64 (-(n : Int))] w fun e w' => e = .returned (wd (rr x n)) ∧ w' = w := by
  have ha := and31 n (by omega) h1
  obtain ⟨s, hs⟩ : ∃ s, 32 - n = s := ⟨_, rfl⟩
  rw [hs] at ha
  have hs1 : s ≤ 31 := by omega
  have HX := Lib.hid hx; clear hx
  have HS := Lib.hid hs; clear hs
  have hw : IntKind.u64.wrap (32 - (s : Int)) = ((32 - s : Nat) : Int) := by rw [IntKind.wrap_u64]; omega
  go_enter Tryz.func170, Tryz.ntmps170
  go_wp2
  go_ret
  exact ⟨ret_rot HX.out HS.out h2, rfl⟩
theorem rot_any (w : World) (x : Nat) (n : Nat) (i : Int) (hi : i = (n : Nat)) (hx : x < M) (h1 : 1 ≤ n) (h2 : n ≤ 31) :
    Calls Tryz.prog 152 #[.int .u32 (x : Nat), .int .i64 i] w fun e w' => e = .returned (wd (rr x n)) ∧ w' = w := by
  subst hi
  have hc := RotateLeft32_any w x n hx h1 h2
  have hw : IntKind.i64.wrap (-(n : Int)) = -(n : Int) := by simp [IntKind.wrap, IntKind.bits, IntKind.signed]; omega
  go_enter Tryz.func152, Tryz.ntmps152
  go_wp2_with fail
  go_must (go_fit hc)
  rintro e w' ⟨rfl, rfl⟩
  go_wp2
  go_ret
  exact ⟨rfl, rfl⟩
theorem refRot_any (w : World) (x : Nat) (n : Nat) (i : Int) (hi : i = (n : Nat)) (hx : x < M) (h1 : 1 ≤ n) (h2 : n ≤ 31) :
    Calls Tryz.prog 138 #[.int .u32 (x : Nat), .int .i64 i] w fun e w' => e = .returned (wd (rr x n)) ∧ w' = w.drew := by
  subst hi
  obtain ⟨s, hs⟩ : ∃ s, 32 - n = s := ⟨_, rfl⟩
  have hw : IntKind.i64.wrap (32 - (n : Int)) = ((s : Nat) : Int) := by simp [IntKind.wrap, IntKind.bits, IntKind.signed]; omega
  have hs1 : s ≤ 31 := by omega
  have HX := Lib.hid hx; clear hx
  have HS := Lib.hid hs; clear hs
  go_enter Tryz.func138, Tryz.ntmps138
  go_wp2
  go_region
  go_wp2
  go_ret
  exact ⟨ret_rot2 HX.out HS.out h2, rfl⟩
end Go.Proofs.YtbfplapjjeeceaaGreatDoor
namespace Go.Proofs.YtbfplapjjeeceaaGreatDoor
open Go.RowKit SH
def intOf : Value → Int | .int _ i => i | _ => 0
/-- the cells of a row of words -/
def cw (X : List Nat) : Array Value := (X.map wd).toArray
theorem cw_size (X : List Nat) : (cw X).size = X.length := by simp [cw]
theorem cw_get (X : List Nat) (j : Nat) (h : j < X.length) : (cw X)[j]? = some (wd (gw X j)) := by
  simp [cw, gw, List.getD_eq_getElem?_getD, h]
theorem cw_set (X : List Nat) (j v : Nat) : (cw X).setIfInBounds j (wd v) = cw (X.set j v) := by
  apply Array.ext'
  simp [cw, List.map_set]
theorem cw_one (X : List Nat) : (cw X).all (·.oneCell') = true := by
  rw [Array.all_eq_true_iff_forall_mem]
  intro v hv
  simp [cw] at hv
  obtain ⟨x, _, rfl⟩ := hv
  rfl
/-- words X lie in block b, whose type is T -/
def Has (w : World) (b : Nat) (T : TypeId) (X : List Nat) : Prop := w.heap[b]? = some (.cells (cw X) T (0, 0))
theorem Has.cell {w : World} {b : Nat} {T : TypeId} {X : List Nat} (h : Has w b T X) (j : Nat) (hj : j < X.length) : w.cell? ⟨b, j, none⟩ = some (.int .u32 (gw X j : Nat)) := by
  rw [cell_of_row w b j _ T _ h, cw_get X j hj]
theorem Has.free {w : World} {b : Nat} {T : TypeId} {X : List Nat} (h : Has w b T X) (j : Nat) : w.frozen? ⟨b, j, none⟩ = false := frozen_of_row w b j _ T h
theorem Has.drew {w : World} {b : Nat} {T : TypeId} {X : List Nat} (h : Has w b T X) : Has w.drew b T X := h
theorem Has.lt {w : World} {b : Nat} {T : TypeId} {X : List Nat} (h : Has w b T X) : b < w.heap.size := (Array.getElem?_eq_some_iff.1 h).1
theorem Has.set {w : World} {b : Nat} {T : TypeId} {X : List Nat} (h : Has w b T X) (j v : Nat) : Has (w.setCell ⟨b, j, none⟩ (.int .u32 (v : Nat))) b T (X.set j v) := by
  unfold Has
  rw [heap_setCell_same w b j _ T _ h]
  rw [show (Value.int .u32 (v : Nat)) = wd v from rfl, cw_set]
theorem Has.setOther {w : World} {b c : Nat} {T : TypeId} {X : List Nat} (h : Has w b T X) (hc : b ≠ c) (j : Nat) (v : Value) : Has (w.setCell ⟨c, j, none⟩ v) b T X := by
  unfold Has
  rw [heap_setCell_other w _ b _ hc]; exact h
theorem Has.alloc {w : World} {b : Nat} {T : TypeId} {X : List Nat} (h : Has w b T X) (o : Obj) : Has (w.alloc o) b T X := by
  unfold Has
  have hl := h.lt; unfold Has at h
  rw [Go.heap_alloc_old _ _ hl]; exact h
theorem Has.below {w w' : World} {b B : Nat} {T : TypeId} {X : List Nat} (h : Has w b T X) (k : Below B w w') (hb : b < B) : Has w' b T X := by
  unfold Has
  rw [k.block b hb]; exact h
theorem Below.setRow' {B g : Nat} {w0 w : World} (hb : Below B w0 w) (hBg : B ≤ g) (cs : Array Value) : Below B w0 (w.setRow g cs) := by
  refine hb.trans ⟨rfl, rfl, rfl, by simp, fun k hk => ?_⟩
  exact setRow_other w g k cs (by omega)
/-- byte i of a row -/
def gb (l : List UInt8) (i : Nat) : Nat := (l.getD i 0).toNat
theorem gb_lt (l : List UInt8) (i : Nat) : gb l i < 256 := (l.getD i 0).toNat_lt
/-- the number that the first m bytes of word j spell -/
def fw (l : List UInt8) (j : Nat) : Nat → Nat
  | 0 => 0
  | m+1 => fw l j m * 256 + gb l (4*j+m)
theorem fw_four (l : List UInt8) (j : Nat) : fw l j 4 = word l j := by
  simp only [fw, word, gb, Nat.add_zero]; omega
theorem fw_le (l : List UInt8) (j m : Nat) (h : m ≤ 3) : fw l j m < 16777216 := by
  have h0 := gb_lt l (4*j+0)
  have h1 := gb_lt l (4*j+1)
  have h2 := gb_lt l (4*j+2)
  have : m = 0 ∨ m = 1 ∨ m = 2 ∨ m = 3 := by omega
  rcases this with rfl | rfl | rfl | rfl <;> simp only [fw] <;> omega
/-- the words behind k bytes of a block -/
def PW (l : List UInt8) (k : Nat) (X : List Nat) : Prop := X.length = 64 ∧ ∀ j, j < 64 → gw X j = fw l j (min 4 (k - 4*j))
theorem gw_set (X : List Nat) (i v j : Nat) (h : i < X.length) : gw (X.set i v) j = if j = i then v else gw X j := by
  unfold gw
  by_cases e : j = i
  · subst e; simp [h]
  · rw [if_neg e, List.getD_eq_getElem?_getD, List.getElem?_set_ne (Ne.symm e), ← List.getD_eq_getElem?_getD]
theorem PW.step {l : List UInt8} {k : Nat} {X : List Nat} (h : PW l k X) (hk : k < 64) : PW l (k+1) (X.set (k/4) ((gw X (k/4) * 256 % M) ||| gb l k)) := by
  refine ⟨by rw [List.length_set]; exact h.1, fun j hj => ?_⟩
  rw [gw_set X _ _ j (by rw [h.1]; omega)]
  split
  · rename_i e; subst e
    rw [h.2 (k/4) (by omega), show min 4 (k - 4*(k/4)) = k%4 by omega, show min 4 (k+1 - 4*(k/4)) = k%4+1 by omega, join8 _ _ (fw_le l _ _ (by omega)) (gb_lt l k), fw]
    congr 2; omega
  · rename_i e
    rw [h.2 j hj]; congr 1; omega
/-- i words of the schedule, then what was there -/
def SW (l : List UInt8) (i : Nat) (X : List Nat) : Prop := X.length = 64 ∧ ∀ j, j < i → gw X j = gw (sch l 64) j
theorem PW.sched {l : List UInt8} {X : List Nat} (h : PW l 64 X) : SW l 16 X := by
  refine ⟨h.1, fun j hj => ?_⟩
  rw [h.2 j (by omega), show min 4 (64 - 4*j) = 4 by omega, fw_four, gw_sch_le l (n := j+1) (by omega) (by omega), gw_sch_new, if_pos hj]
theorem SW.step {l : List UInt8} {i : Nat} {X : List Nat} (h : SW l i X) (h1 : 16 ≤ i) (h2 : i < 64) : SW l (i+1) (X.set i (ad (ad (ad (gw X (i-16)) (s0 (gw X (i-15)))) (gw X (i-7))) (s1 (gw X (i-2))))) := by
  refine ⟨by rw [List.length_set]; exact h.1, fun j hj => ?_⟩
  rw [gw_set X _ _ j (by rw [h.1]; omega)]
  split
  · rename_i e; subst e
    rw [gw_sch_le l (n := j+1) (by omega) (by omega), gw_sch_new, if_neg (by omega)]
    unfold wnext
    rw [h.2 _ (by omega), h.2 _ (by omega), h.2 _ (by omega), h.2 _ (by omega)]
    rw [gw_sch_le l (j := j-16) (n := j) (m := 64) (by omega) (by omega), gw_sch_le l (j := j-15) (n := j) (m := 64) (by omega) (by omega), gw_sch_le l (j := j-7) (n := j) (m := 64) (by omega) (by omega), gw_sch_le l (j := j-2) (n := j) (m := 64) (by omega) (by omega)]
  · exact h.2 j (by omega)
theorem list_gw (X Y : List Nat) (n : Nat) (h1 : X.length = n) (h2 : Y.length = n) (h : ∀ j, j < n → gw X j = gw Y j) : X = Y := by
  apply List.ext_getElem (by rw [h1, h2])
  intro j a b
  have := h j (by omega)
  simpa [gw, a, b] using this
theorem SW.done {l : List UInt8} {X : List Nat} (h : SW l 64 X) : X = sch l 64 := list_gw _ _ 64 h.1 (sch_length l 64) h.2
theorem zeros_cw (n : Nat) : Array.replicate n (Value.int .u32 0) = cw (List.replicate n 0) := by
  apply Array.ext'
  simp [cw, wd]
theorem PW.start (l : List UInt8) : PW l 0 (List.replicate 64 0) := ⟨by simp, fun j hj => by rw [show min 4 (0 - 4*j) = 0 by omega]; unfold gw fw; rw [List.getD_eq_getElem?_getD, List.getElem?_replicate]; split <;> rfl⟩
theorem byte_gb (B : ByteArray) (k : Nat) (h : k < B.size) : (B[k]'h).toNat = gb B.data.toList k := by
  unfold gb
  have h2 : k < B.data.toList.length := by simpa using h
  rw [List.getD_eq_getElem?_getD, List.getElem?_eq_getElem h2]
  simp [ByteArray.getElem_eq_getElem_data]
theorem or8 {a : Nat} (b : Nat) (hb : b < 256) : bits .or .u32 ((a : Int) * 256 % 4294967296) ((b : Int) % 4294967296) = (((a * 256 % M) ||| b : Nat) : Int) := by
  have e1 : (a : Int) * 256 % 4294967296 = ((a * 256 % M : Nat) : Int) := by unfold M; simp
  have e2 : (b : Int) % 4294967296 = (b : Nat) := by omega
  rw [e1, e2, u32_or_nat _ _ (Nat.mod_lt _ (by decide)) (by unfold M at *; omega)]
theorem xorw (a b : Nat) (ha : a < M) (hb : b < M) : bits .xor .u32 (a : Int) (b : Int) = ((a ^^^ b : Nat) : Int) := u32_xor_nat a b ha hb
theorem adI (a b : Nat) : ((a : Int) + (b : Int)) % 4294967296 = ((ad a b : Nat) : Int) := by unfold ad M; simp
theorem ad4I (a b c d : Nat) : ((a : Int) + b + c + d) % 4294967296 = ((ad (ad (ad a b) c) d : Nat) : Int) := by unfold ad M; omega
theorem s0I {x : Nat} (h : x < M) : bits .xor .u32 (bits .xor .u32 ((rr x 7 : Nat) : Int) ((rr x 18 : Nat) : Int)) ((x : Int) / 8) = ((s0 x : Nat) : Int) := by
  rw [xorw _ _ (rr_lt h _) (rr_lt h _), show ((x : Int) / 8) = ((x / 8 : Nat) : Int) by simp, xorw _ _ (xor_lt (rr_lt h _) (rr_lt h _)) (Nat.lt_of_le_of_lt (Nat.div_le_self _ _) h)]; rfl
theorem s1I {x : Nat} (h : x < M) : bits .xor .u32 (bits .xor .u32 ((rr x 17 : Nat) : Int) ((rr x 19 : Nat) : Int)) ((x : Int) / 1024) = ((s1 x : Nat) : Int) := by
  rw [xorw _ _ (rr_lt h _) (rr_lt h _), show ((x : Int) / 1024) = ((x / 1024 : Nat) : Int) by simp, xorw _ _ (xor_lt (rr_lt h _) (rr_lt h _)) (Nat.lt_of_le_of_lt (Nat.div_le_self _ _) h)]; rfl
theorem andw (a b : Nat) (ha : a < M) (hb : b < M) : bits .and .u32 (a : Int) (b : Int) = ((a &&& b : Nat) : Int) := u32_and_nat a b ha hb
set_option maxRecDepth 100000 in
set_option maxHeartbeats 600000 in
theorem schedule_any (w : World) (B : ByteArray) (hB : B.size = 64) :
    Calls Tryz.prog 151 #[.string B] w fun e w' => e = .returned (.agg (cw (sch B.data.toList 64))) ∧ Below w.heap.size w w' := by
  go_enter Tryz.func151, Tryz.ntmps151
  have hz : Has ((w.alloc (.cells (Array.replicate 64 (.int .u32 0)) 160)).alloc (.cells (Array.replicate 64 (.int .u32 0)) 160)) (w.heap.size + 1) 160 (List.replicate 64 0) := by
    unfold Has; rw [heap_alloc2_new, zeros_cw]
  have hz2 : Has ((w.alloc (.cells (Array.replicate 64 (.int .u32 0)) 160)).alloc (.cells (Array.replicate 64 (.int .u32 0)) 160)) w.heap.size 160 (List.replicate 64 0) := by
    unfold Has; rw [heap_alloc2_old, zeros_cw]
  go_wp2
  go_loopw [10] (fun i wr => ∃ (k : Nat) (kk : Int) (X : List Nat), k ≤ 64 ∧ kk = (k : Nat) ∧ i = .int .i64 kk ∧ PW B.data.toList k X ∧ Has wr (w.heap.size + 1) 160 X ∧ Has wr w.heap.size 160 (List.replicate 64 0) ∧ Below w.heap.size w wr) (fun i _ => 64 - (intOf i).toNat)
  case atStart => exact ⟨0, 0, _, by omega, rfl, rfl, PW.start _, hz, hz2, ((Below.refl w.heap.size w).alloc (Nat.le_refl _) _).alloc (by simp) _⟩
  case round =>
    obtain ⟨k, kk, X, hk, hkk, rfl, hP, hX, hR, hb⟩ := hrel
    by_cases hlt : k < 64
    · subst hkk
      have hx := hX.cell (k/4) (by rw [hP.1]; omega)
      have hf := hX.free (k/4)
      go_wp2
      go_region
      go_wp2
      have e := or8 (a := gw X (k/4)) _ (gb_lt B.data.toList k)
      rw [← byte_gb B k (by omega)] at e
      rw [e]
      refine ⟨⟨k + 1, _, _, by omega, by simp, rfl, ?_, (hX.set (k/4) _).drew, (hR.setOther (by omega) _ _).drew, (hb.setCell (by simp) _).drew⟩, by simp [intOf]; omega⟩
      rw [byte_gb B k (by omega)]
      exact hP.step hlt
    · obtain rfl : k = 64 := by omega
      obtain rfl : kk = 64 := by omega
      have hS := hP.sched
      clear hP hlt hk hkk
      go_wp2
      go_loopw [5] (fun i wr => ∃ (k : Nat) (X : List Nat), 16 ≤ k ∧ k ≤ 64 ∧ i = .int .i64 (k : Nat) ∧ SW B.data.toList k X ∧ Has wr (w.heap.size + 1) 160 X ∧ Has wr w.heap.size 160 (List.replicate 64 0) ∧ Below w.heap.size w wr) (fun i _ => 64 - (intOf i).toNat)
      case atStart => exact ⟨16, _, by omega, by omega, rfl, hS, hX, hR, hb⟩
      case round =>
        clear hS hX hR hb
        obtain ⟨k, X, hk1, hk, rfl, hS, hX, hR, hb⟩ := hrel
        by_cases hlt : k < 64
        · have c1 := hX.cell (k-15) (by rw [hS.1]; omega)
          have c2 := hX.cell (k-2) (by rw [hS.1]; omega)
          have c3 := hX.cell (k-16) (by rw [hS.1]; omega)
          have c4 := hX.cell (k-7) (by rw [hS.1]; omega)
          have c5 := hX.cell k (by rw [hS.1]; omega)
          have hf := hX.free k
          go_wp2
          go_region
          have hx : gw X (k-15) < M := by rw [hS.2 _ (by omega)]; exact gw_sch_lt _ _ _
          have hy : gw X (k-2) < M := by rw [hS.2 _ (by omega)]; exact gw_sch_lt _ _ _
          have x0 := s0I hx
          have x1 := s1I hy
          have r0 := fun W => rot_any W _ 7 7 rfl hx (by omega) (by omega)
          have r1 := fun W => rot_any W _ 18 18 rfl hx (by omega) (by omega)
          have r2 := fun W => rot_any W _ 17 17 rfl hy (by omega) (by omega)
          have r3 := fun W => rot_any W _ 19 19 rfl hy (by omega) (by omega)
          have HH := Lib.hid (And.intro hx hy); clear hx hy
          go_wp2_with fail
          go_must (go_fit (r0 _))
          rintro e w1 ⟨rfl, rfl⟩
          go_wp2_with fail
          go_must (go_fit (r1 _))
          rintro e w1 ⟨rfl, rfl⟩
          go_wp2_with fail
          go_must (go_fit (r2 _))
          rintro e w1 ⟨rfl, rfl⟩
          go_wp2_with fail
          go_must (go_fit (r3 _))
          rintro e w1 ⟨rfl, rfl⟩
          go_wp2
          go_region
          go_wp2
          go_roundw
          case rel => exact ⟨k + 1, _, by omega, by omega, by simp, hS.step hk1 hlt, by rw [ad4I]; exact (hX.set k _).drew, (hR.setOther (by omega) _ _).drew, ((hb.setCell (p := ⟨w.heap.size + 1, k, none⟩) (by simp) _).drew).drew⟩
          case measure => (simp [intOf]; try omega)
        · obtain rfl : k = 64 := by omega
          have e := hS.done
          rw [e] at hX
          clear e hS
          generalize hsc : sch B.data.toList 64 = Y at *
          have hY : Y.length = 64 := by rw [← hsc]; exact sch_length _ _
          have HSC := Lib.hid hsc; clear hsc
          have hi : (Tryz.prog.info? 160).map (·.size) = some (cw Y).size := by rw [cw_size, hY]; kernel_rfl
          have HI := Lib.hid hi; clear hi hz hz2
          have hsz : (cw (List.replicate 64 0)).size = (cw Y).size := by rw [cw_size, cw_size, hY, List.length_replicate]
          go_wp2_with (first | (refine wpList_load_row rfl 160 (.tmp 3) rfl (w.heap.size + 1) rfl 160 (cw Y) (0, 0) _ hX Tryz.underlying160 rfl HI.out ?_) | (refine wpList_store_row rfl 160 (.tmp 2) (.tmp 70) rfl w.heap.size (cw Y) rfl rfl 160 _ hR HI.out hsz (cw_one _) ?_))
          refine bodyPost_ret (results_cell_row rfl _ _ w.heap.size _ (cw Y) _ _ rfl (setRow_heap _ _ _ _ _ _ hR) Tryz.underlying160 rfl HI.out) rfl ?_
          exact ⟨by rw [HSC.out], Below.setRow' hb (Nat.le_refl _) _⟩
end Go.Proofs.YtbfplapjjeeceaaGreatDoor
