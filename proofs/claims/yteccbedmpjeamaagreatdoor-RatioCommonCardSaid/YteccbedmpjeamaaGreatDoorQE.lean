/-
  Lists of numbers in memory; the walks of slices.IndexFunc and ContainsFunc with a span's excludes.
  The walks of ratio.fold over numbers and of ratio.Sum.
  The walks of ratio.fold over natural numbers and of ratio.Common.
-/
import Derived.Test.YteccbedmpjeamaaGreatDoorQB
import Derived.LoopTactic
import Derived.Test.YteccbedmpjeamaaGreatDoorQC
import Derived.Laws.MakeOwn
import Derived.Deep.Heap
namespace Go.Proofs.YteccbedmpjeamaaGreatDoor
open Go.RowKit NM QM
abbrev T3 := Bool × ByteArray × ByteArray
/-- the elements of a list lie in a block -/
def RL (W : World) (b : Nat) (l : List T3) : Prop := ∀ i (h : i < l.length), W.cell? ⟨b, i * 3, none⟩ = some (.bool l[i].1) ∧ W.cell? ⟨b, i * 3 + 1, none⟩ = some (.string l[i].2.1) ∧ W.cell? ⟨b, i * 3 + 2, none⟩ = some (.string l[i].2.2)
theorem RL.below {B b : Nat} {l : List T3} {u w : World} (h : RL u b l) (hb : Below B u w) (hB : b < B) : RL w b l := fun i hi =>
  ⟨(hb.cell (p := ⟨b, i * 3, none⟩) hB).trans (h i hi).1, (hb.cell (p := ⟨b, i * 3 + 1, none⟩) hB).trans (h i hi).2.1, (hb.cell (p := ⟨b, i * 3 + 2, none⟩) hB).trans (h i hi).2.2⟩
/-- all parts are of at most N bytes -/
def SzL (N : Nat) (l : List T3) : Prop := ∀ t ∈ l, t.2.1.size ≤ N ∧ t.2.2.size ≤ N
/-- not right, or negative -/
def badq (t : T3) : Bool := !okq t.1 t.2.1 t.2.2 || t.1
def IdxQ (l : List T3) (w : World) (e : Ending) (w' : World) : Prop := ∃ r : Int, e = .returned (.int .i64 r) ∧ ((0 ≤ r) ↔ l.any badq = true) ∧ -1 ≤ r ∧ r ≤ 1000000 ∧ Below w.heap.size w w'
theorem any_take {l : List T3} (h : ∀ t ∈ l.take l.length, badq t = false) : l.any badq = false := by
  rw [List.take_length] at h
  simpa using h
set_option maxRecDepth 100000 in
set_option maxHeartbeats 4000000 in
theorem idx_any (w : World) (b cap : Nat) (l : List T3) (N : Nat) (hR : RL w b l) (hb : b < w.heap.size) (hs : SzL N l) (hN : N ≤ 1000000) (hn : l.length ≤ cap) (hl : l.length ≤ 1000000) (hT : Tb w) :
    Calls Tryz.prog 99 #[.slice (some ⟨b, 0, none⟩) l.length cap, .func (.func 71) #[.agg #[.bool false]] #[]] w (IdxQ l w) := by
  have HR := Lib.hid (And.intro hR (And.intro hb (And.intro hs hT)))
  clear hR hb hs hT
  go_enter Tryz.func99, Tryz.ntmps99
  go_wp2
  go_loopw [8] (fun i wr => ∃ k : Nat, k ≤ l.length ∧ i = .int .i64 k ∧ Hid (∀ t ∈ l.take k, badq t = false) ∧ Hid (Below w.heap.size w wr)) (fun i _ => l.length - (intOf i).toNat)
  case atStart => exact ⟨0, Nat.zero_le _, rfl, Lib.hid (fun t ht => by simp at ht), Lib.hid (Below.refl _ _)⟩
  case round =>
    obtain ⟨k, hk, rfl, hbad, hB⟩ := hrel
    by_cases hlt : k < l.length
    · obtain ⟨c0, c1, c2⟩ := (HR.out.1.below hB.out HR.out.2.1) k hlt
      have hm := HR.out.2.2.1 l[k] (List.getElem_mem hlt)
      have htk : l.take (k + 1) = l.take k ++ [l[k]] := by rw [List.take_succ_eq_append_getElem hlt]
      have hin : l[k] ∈ l := List.getElem_mem hlt
      obtain ⟨t, ht⟩ : ∃ t, l[k] = t := ⟨_, rfl⟩
      rw [ht] at c0 c1 c2 hm htk hin
      obtain ⟨g, A, B⟩ := t
      have EE := fun W (h : Below w.heap.size w W) => excl_any W false g A B N hm.1 hm.2 hN (HR.out.2.2.2.t.below h HR.out.2.2.2.g) (Nat.lt_of_lt_of_le HR.out.2.2.2.g h.size)
      obtain ⟨x, hx⟩ : ∃ x, badq (g, A, B) = x := ⟨_, rfl⟩
      rw [show (!okq g A B || (g && !false)) = x by rw [← hx]; simp [badq]] at EE
      have HE := Lib.hid (And.intro EE (And.intro hx (And.intro htk (And.intro hin hbad.out))))
      clear EE hx htk hin hbad hm ht
      simp only at c0 c1 c2
      go_wp2_with fail
      refine (HE.out.1 _ hB.out).mono ?_
      rintro e w2 ⟨rfl, b2⟩
      have hB2 := Lib.hid (hB.out.trans (b2.mono hB.out.size))
      clear b2
      cases x with
      | true =>
        go_wp2
        go_ret
        exact ⟨k, rfl, ⟨fun _ => List.any_eq_true.2 ⟨_, HE.out.2.2.2.1, HE.out.2.1⟩, fun _ => by omega⟩, by omega, by omega, hB2.out⟩
      | false =>
        go_wp2
        go_roundw
        case rel =>
          refine ⟨k + 1, by omega, by go_num, Lib.hid ?_, hB2⟩
          intro t ht
          rw [HE.out.2.2.1] at ht
          rcases List.mem_append.1 ht with ht | ht
          · exact HE.out.2.2.2.2 t ht
          · rw [List.mem_singleton.1 ht]; exact HE.out.2.1
        case measure => (simp [intOf]; omega)
    · obtain rfl : k = l.length := by omega
      have hno := Lib.hid (any_take hbad.out)
      go_wp2
      go_ret
      exact ⟨-1, rfl, ⟨fun h => by omega, fun h => by rw [hno.out] at h; cases h⟩, by omega, by omega, hB.out⟩
def ConQ (l : List T3) (w : World) (e : Ending) (w' : World) : Prop := e = .returned (.bool (l.any badq)) ∧ Below w.heap.size w w'
set_option maxRecDepth 100000 in
set_option maxHeartbeats 4000000 in
theorem con_any (w : World) (b cap : Nat) (l : List T3) (N : Nat) (hR : RL w b l) (hb : b < w.heap.size) (hs : SzL N l) (hN : N ≤ 1000000) (hn : l.length ≤ cap) (hl : l.length ≤ 1000000) (hT : Tb w) :
    Calls Tryz.prog 70 #[.slice (some ⟨b, 0, none⟩) l.length cap, .func (.func 71) #[.agg #[.bool false]] #[]] w (ConQ l w) := by
  have II := Lib.hid (idx_any w b cap l N hR hb hs hN hn hl hT)
  clear hR hb hs hT
  go_enter Tryz.func70, Tryz.ntmps70
  go_wp2_with fail
  refine II.out.mono ?_
  rintro e w2 ⟨r, rfl, h1, h2, h3, h4⟩
  by_cases hr : 0 ≤ r
  · have hy := Lib.hid (h1.1 hr)
    have H4 := Lib.hid h4
    clear h1 h4
    go_wp2
    go_ret
    exact ⟨by rw [hy.out]; simp [hr], H4.out⟩
  · have hy := Lib.hid (show l.any badq = false by
      cases hh : l.any badq with
      | true => exact absurd (h1.2 hh) hr
      | false => rfl)
    have H4 := Lib.hid h4
    clear h1 h4
    go_wp2
    go_ret
    exact ⟨by rw [hy.out]; simp [hr], H4.out⟩
end Go.Proofs.YteccbedmpjeamaaGreatDoor
namespace Go.Proofs.YteccbedmpjeamaaGreatDoor
open Go.RowKit NM QM
theorem SmQ.mono {N M : Nat} {a : Rat} (h : SmQ N a) (hM : N ≤ M) : SmQ M a := ⟨lt_wide h.1 hM, lt_wide h.2 hM⟩
theorem SmQ_zero (N : Nat) (h : 1 ≤ N) : SmQ N 0 := by
  have h1 : 1 < 256^N := Nat.lt_of_lt_of_le (show 1 < 256^1 by decide) (Nat.pow_le_pow_right (by omega) h)
  exact ⟨by show (0 : Nat) < _; omega, h1⟩
theorem SmQ_add {M N : Nat} {a b : Rat} (ha : SmQ M a) (hb : SmQ N b) : SmQ (M + N + 1) (a + b) := by
  have h := mk_jn a b
  have x1 : a.num.natAbs * b.den < 256^(M + N) := mul_lt ha.1 hb.2
  have x2 : b.num.natAbs * a.den < 256^(M + N) := by rw [Nat.add_comm]; exact mul_lt hb.1 ha.2
  have hd : a.den * b.den < 256^(M + N + 1) := lt_wide (mul_lt ha.2 hb.2) (by omega)
  have jl : (jn (decide (a.num < 0)) (a.num.natAbs * b.den) (decide (b.num < 0)) (b.num.natAbs * a.den)).2 < 256^(M + N + 1) := by
    unfold jn; split
    · exact add_lt x1 x2
    · split
      · exact Nat.lt_of_le_of_lt (Nat.sub_le _ _) (lt_wide x1 (by omega))
      · exact Nat.lt_of_le_of_lt (Nat.sub_le _ _) (lt_wide x2 (by omega))
  rw [← h]
  have h0 : a.den * b.den ≠ 0 := Nat.mul_ne_zero a.den_nz b.den_nz
  exact ⟨by rw [mk_num _ _ _ h0]; exact div_lt jl, by rw [mk_den _ _ _ h0]; exact div_lt hd⟩
theorem SmQ_mul {M N : Nat} {a b : Rat} (ha : SmQ M a) (hb : SmQ N b) : SmQ (M + N) (a * b) := by
  have h := mk_prod a b
  rw [← h]
  have h0 : a.den * b.den ≠ 0 := Nat.mul_ne_zero a.den_nz b.den_nz
  exact ⟨by rw [mk_num _ _ _ h0]; exact div_lt (mul_lt ha.1 hb.1), by rw [mk_den _ _ _ h0]; exact div_lt (mul_lt ha.2 hb.2)⟩
/-- the number as which an element counts -/
def rv3 (t : T3) : Rat := rvq t.1 t.2.1 t.2.2
def sumq (l : List T3) : Rat := l.foldl (fun s t => s + rv3 t) 0
theorem sumq_snoc (l : List T3) (t : T3) : sumq (l ++ [t]) = sumq l + rv3 t := by unfold sumq; rw [List.foldl_append]; rfl
set_option maxRecDepth 100000 in
set_option maxHeartbeats 4000000 in
theorem sum1_q (w : World) (a : Rat) (g2 : Bool) (A2 B2 : ByteArray) (N M : Nat) (ha : SmQ M a) (hA2 : A2.size ≤ N) (hB2 : B2.size ≤ N) (hN1 : 1 ≤ N) (hNM : N ≤ M) (hN : M ≤ 1000000) (hT : Tb w) :
    Calls Tryz.prog 62 #[QV a, RW g2 A2 B2] w fun e w' => e = .returned (QV (a + rvq g2 A2 B2)) ∧ Below w.heap.size w w' := by
  have V2 := fun W (h : Tb W) => valid_any W g2 A2 B2 N hA2 hB2 (by omega) h
  have s2 := (SmQ_rvq g2 A2 B2 N hA2 hB2 hN1).mono hNM
  generalize rvq g2 A2 B2 = b at *
  have PP := fun W (h : Tb W) => plus_q W a b M ha s2 hN h.t h.g
  unfold QV at *
  have HV := Lib.hid V2
  have h0 := d2_start w (qcells a) (rrow g2 A2 B2) hT
  have hz := d2_z w (qcells a) (rrow g2 A2 B2)
  obtain ⟨W, hW⟩ : ∃ W, ((w.alloc (.cells (qcells a) 26)).alloc (.cells (rrow g2 A2 B2) 26)).alloc (.cells zrow 26) = W := ⟨_, rfl⟩
  rw [hW] at h0 hz
  have HW := Lib.hid hW
  have HT := Lib.hid hT
  have HZ := Lib.hid hz
  have HP := Lib.hid PP
  clear hW V2 PP hz hT ha s2
  unfold RW
  go_enter Tryz.func62, Tryz.ntmps62
  go_upto_region 1 with fail
  change Code.wp _ _ _ _ (((w.alloc (.cells (qcells a) 26)).alloc (.cells (rrow g2 A2 B2) 26)).alloc (.cells zrow 26))
  rw [HW.out]
  have hz : W.drew.heap[w.heap.size + 2]? = _ := HZ.out
  refine wp_region_held_drew (S := D2 w (qcells a) (rrow g2 A2 B2)) (by kernel_rfl) h0.drew (fun hS => ?_)
  clear HW HZ h0
  refine wpAnyH_take (i := 0) (oi := { dst := some 5, op := Op.load 26 (Operand.tmp 2), type := 26, pos := "list.go:12", after := #[], guard := none }) (v := .agg (qcells a)) rfl (by kernel_rfl) (by kernel_rfl) (by kernel_rfl) (fun _ _ _ h => h) (Or.inl ⟨by rfl, ?ysu0⟩) hS ?rsu0
  case ysu0 => exact fun w' hS => exec_load_row w' 26 (.tmp 2) rfl w.heap.size (by first | rfl | (simp [Act.eval])) 26 (qcells a) (0, 0) _ hS.a Tryz.underlying26 rfl info26.out
  refine wpAnyH_take (i := 1) (oi := { dst := some 6, op := Op.load 26 (Operand.tmp 3), type := 26, pos := "list.go:12", after := #[], guard := none }) (v := .agg (rrow g2 A2 B2)) rfl (by kernel_rfl) (by kernel_rfl) (by kernel_rfl) (fun _ _ _ h => h) (Or.inl ⟨by rfl, ?ysu1⟩) hS ?rsu1
  case ysu1 => exact fun w' hS => exec_load_row w' 26 (.tmp 3) rfl (w.heap.size + 1) (by first | rfl | (simp [Act.eval])) 26 (rrow g2 A2 B2) (0, 0) _ hS.c Tryz.underlying26 rfl info26.out
  go_simp
  refine wpAnyH_ready (rs := [2]) (by kernel_rfl) (by simp) ?_
  refine AllReadyH.cons (o := { dst := some 7, op := Op.call { callee := Callee.value (Operand.func 47), args := #[Operand.tmp 6], argTypes := #[26] }, type := 26, pos := "list.go:12", after := #[{ on := 1, ground := Ground.data }], guard := none }) rfl (fun K hK => ?_) AllReadyH.nil
  go_simp
  go_at_call 47
  refine (HV.out _ hS.t).mono ?_
  rintro e w' ⟨rfl, b⟩
  have hS2 := hS.next b
  have hz2 := (b.block _ hS.lt).trans hz
  clear hz
  have hz := hz2
  clear hz2
  clear b hS
  try go_simp
  refine hK.out _ _ hS2 (fun hS => ?_)
  clear hK K hS2
  refine wpAnyH_ready (rs := [3]) (by kernel_rfl) (by simp) ?_
  refine AllReadyH.cons (o := { dst := some 8, op := Op.call { callee := Callee.value (Operand.func 50), args := #[Operand.tmp 5, Operand.tmp 7], argTypes := #[26, 26] }, type := 26, pos := "list.go:12", after := #[{ on := 0, ground := Ground.data }, { on := 2, ground := Ground.data }, { on := 2, ground := Ground.chain }], guard := none }) rfl (fun K hK => ?_) AllReadyH.nil
  go_simp
  go_at_call 50
  refine (HP.out _ hS.t).mono ?_
  rintro e w' ⟨rfl, b⟩
  have hS2 := hS.next b
  have hz2 := (b.block _ hS.lt).trans hz
  clear hz
  have hz := hz2
  clear hz2
  clear b hS
  try go_simp
  refine hK.out _ _ hS2 (fun hS => ?_)
  clear hK K hS2
  refine wpAnyH_ready (rs := [4]) (by kernel_rfl) (by simp) ?_
  refine AllReadyH.cons (o := { dst := none, op := Op.store 26 (Operand.tmp 4) (Operand.tmp 8), type := 0, pos := "list.go:12", after := #[{ on := 3, ground := Ground.data }, { on := 3, ground := Ground.chain }, { on := 0, ground := Ground.phase }, { on := 1, ground := Ground.phase }, { on := 2, ground := Ground.phase }, { on := 3, ground := Ground.phase }], guard := none }) rfl (fun K hK => ?_) AllReadyH.nil
  rw [if_pos (by rfl)]
  refine wp_store_row 26 (.tmp 4) (.tmp 8) rfl (w.heap.size + 2) (qcells (a + b)) (by first | rfl | (simp [Act.eval])) (by first | rfl | (simp [Act.eval])) 26 zrow hz info26.out rfl (qone _) ?_
  have hS2 := hS.store HT.out (qcells (a + b))
  clear hS
  refine hK.out _ _ hS2 (fun hS => ?_)
  clear hK K hS2
  refine wpAnyH_done (by kernel_rfl) ?_ _
  go_wp2
  refine bodyPost_ret (results_cell_row rfl _ _ (w.heap.size + 2) _ (qcells (a + b)) _ _ rfl (setRow_heap _ _ _ _ _ _ hz) Tryz.underlying26 rfl info26.out) rfl ?_
  exact ⟨rfl, hS.b⟩
theorem sumq_small (N : Nat) (l : List T3) (hs : SzL N l) (hN : 1 ≤ N) (k : Nat) (hk : k ≤ l.length) : SmQ (N + k * (N + 1)) (sumq (l.take k)) := by
  induction k with
  | zero => rw [List.take_zero]; exact (SmQ_zero N hN).mono (by omega)
  | succ k ih =>
    have hlt : k < l.length := by omega
    have hm := hs l[k] (List.getElem_mem hlt)
    rw [List.take_succ_eq_append_getElem hlt, sumq_snoc]
    have h := SmQ_add (ih (by omega)) (SmQ_rvq l[k].1 l[k].2.1 l[k].2.2 N hm.1 hm.2 hN)
    exact h.mono (by rw [Nat.add_mul]; omega)
/-- the fold's blocks -/
structure FS (w : World) (s : Rat) (W : World) : Prop where
  z : W.heap[w.heap.size + 1]? = some (.cells zrow 26 (0, 0))
  a : W.heap[w.heap.size + 2]? = some (.cells (qcells s) 26 (0, 0))
  lt : w.heap.size + 2 < W.heap.size
  b : Below w.heap.size w W
theorem FS.next {w u v : World} {s : Rat} (h : FS w s u) (k : Below u.heap.size u v) : FS w s v :=
  ⟨(k.block _ (by have := h.lt; omega)).trans h.z, (k.block _ h.lt).trans h.a, Nat.lt_of_lt_of_le h.lt k.size, h.b.trans (k.mono h.b.size)⟩
theorem FS.store {w u : World} {s : Rat} (h : FS w s u) (s' : Rat) : FS w s' (u.setRow (w.heap.size + 2) (qcells s')) :=
  ⟨(setRow_other _ _ _ _ (by omega)).trans h.z, setRow_heap _ _ _ _ _ _ h.a, by have := h.lt; rw [show (u.setRow (w.heap.size + 2) (qcells s')).heap.size = u.heap.size by simp]; exact this, Below.setRow' h.b (by omega) _⟩
set_option maxRecDepth 100000 in
set_option maxHeartbeats 4000000 in
theorem foldq_any (w : World) (b cap : Nat) (l : List T3) (N : Nat) (hR : RL w b l) (hb : b < w.heap.size) (hs : SzL N l) (hN1 : 1 ≤ N) (hN : N + l.length * (N + 1) ≤ 1000000) (hn : l.length ≤ cap) (hl : l.length ≤ 1000000) (hT : Tb w) :
    Calls Tryz.prog 61 #[.slice (some ⟨b, 0, none⟩) l.length cap, .agg zc, .func (.func 62) #[] #[]] w fun e w' => e = .returned (QV (sumq l)) ∧ Below w.heap.size w w' := by
  have HR := Lib.hid (And.intro hR (And.intro hb (And.intro hs (And.intro hT (And.intro hN1 hN)))))
  clear hR hb hs hT hN1 hN
  obtain ⟨W, hW⟩ : ∃ W, ((w.alloc (.cells zc 26)).alloc (.cells zrow 26)).alloc (.cells (qcells 0) 26) = W := ⟨_, rfl⟩
  have h0 : FS w 0 W := by
    rw [← hW]
    have hb : Below w.heap.size w (((w.alloc (.cells zc 26)).alloc (.cells zrow 26)).alloc (.cells (qcells 0) 26)) := (((Below.refl _ w).alloc (Nat.le_refl _) _).alloc (by simp) _).alloc (by simp; omega) _
    refine ⟨?_, ?_, by simp, hb⟩
    · rw [heap_alloc_old _ _ (by simp)]; exact heap_alloc2_new _ _ _
    · have h := heap_alloc_new ((w.alloc (.cells zc 26)).alloc (.cells zrow 26)) (.cells (qcells 0) 26)
      rwa [show ((w.alloc (.cells zc 26)).alloc (.cells zrow 26)).heap.size = w.heap.size + 2 by simp] at h
  have HW := Lib.hid (And.intro hW h0)
  clear hW h0
  unfold zc
  go_enter Tryz.func61, Tryz.ntmps61
  go_upto_region 2 with fail
  have hW2 := HW.out.1
  rw [zc_q] at hW2
  unfold zc zrow at hW2
  rw [hW2]
  clear hW2
  go_wp2
  go_loopw [13] (fun i wr => ∃ k : Nat, k ≤ l.length ∧ i = .int .i64 k ∧ Hid (FS w (sumq (l.take k)) wr)) (fun i _ => l.length - (intOf i).toNat)
  case atStart => exact ⟨0, Nat.zero_le _, rfl, Lib.hid (by rw [List.take_zero]; exact HW.out.2)⟩
  case round =>
    clear HW
    obtain ⟨k, hk, rfl, hF⟩ := hrel
    by_cases hlt : k < l.length
    · obtain ⟨c0, c1, c2⟩ := (HR.out.1.below hF.out.b HR.out.2.1) k hlt
      have hm := HR.out.2.2.1 l[k] (List.getElem_mem hlt)
      have htk : l.take (k + 1) = l.take k ++ [l[k]] := by rw [List.take_succ_eq_append_getElem hlt]
      obtain ⟨t, ht⟩ : ∃ t, l[k] = t := ⟨_, rfl⟩
      rw [ht] at c0 c1 c2 hm htk
      obtain ⟨g, A, B⟩ := t
      have hsm := sumq_small N l HR.out.2.2.1 HR.out.2.2.2.2.1 k hk
      have hsum := sumq_snoc (l.take k) (g, A, B)
      rw [← htk] at hsum
      obtain ⟨s, hs'⟩ : ∃ s, sumq (l.take k) = s := ⟨_, rfl⟩
      rw [hs'] at hF hsm hsum
      have EE := fun W (h : Below w.heap.size w W) => sum1_q W s g A B N (N + k * (N + 1)) hsm hm.1 hm.2 HR.out.2.2.2.2.1 (by omega) (Nat.le_trans (Nat.add_le_add_left (Nat.mul_le_mul_right _ hk) _) HR.out.2.2.2.2.2) (HR.out.2.2.2.1.belowB h (Nat.le_refl _))
      have HE := Lib.hid (And.intro EE hsum)
      clear EE hsum hsm hs' htk hm ht
      simp only at c0 c1 c2
      have c3 : wr.cell? ⟨w.heap.size + 2, 0, none⟩ = some (.bool (decide (s.num < 0))) := cell_of_row _ _ 0 _ _ _ hF.out.a
      have c4 : wr.cell? ⟨w.heap.size + 2, 1, none⟩ = some (.string (NB s.num.natAbs)) := cell_of_row _ _ 1 _ _ _ hF.out.a
      have c5 : wr.cell? ⟨w.heap.size + 2, 2, none⟩ = some (.string (NB s.den)) := cell_of_row _ _ 2 _ _ _ hF.out.a
      go_upto_region 5 with fail
      have x1 := heap_alloc_new wr (.cells (rrow g A B) 26)
      have x2 := Lib.hid (hF.out.next ((Below.refl wr.heap.size wr).alloc (Nat.le_refl _) (.cells (rrow g A B) 26)))
      change Code.wp _ _ _ _ (wr.alloc (.cells (rrow g A B) 26))
      generalize wr.alloc (.cells (rrow g A B) 26) = Y at *
      clear c0 c1 c2 c3 c4 c5
      have d0 : Y.cell? ⟨wr.heap.size, 0, none⟩ = some (.bool g) := cell_of_row _ _ 0 _ _ _ x1
      have d1 : Y.cell? ⟨wr.heap.size, 1, none⟩ = some (.string A) := cell_of_row _ _ 1 _ _ _ x1
      have d2 : Y.cell? ⟨wr.heap.size, 2, none⟩ = some (.string B) := cell_of_row _ _ 2 _ _ _ x1
      have c3 : Y.cell? ⟨w.heap.size + 2, 0, none⟩ = some (.bool (decide (s.num < 0))) := cell_of_row _ _ 0 _ _ _ x2.out.a
      have c4 : Y.cell? ⟨w.heap.size + 2, 1, none⟩ = some (.string (NB s.num.natAbs)) := cell_of_row _ _ 1 _ _ _ x2.out.a
      have c5 : Y.cell? ⟨w.heap.size + 2, 2, none⟩ = some (.string (NB s.den)) := cell_of_row _ _ 2 _ _ _ x2.out.a
      clear x1
      go_wp2_with fail
      refine (HE.out.1 _ x2.out.b).mono ?_
      rintro e w2 ⟨rfl, b2⟩
      have H2 := Lib.hid (x2.out.next b2)
      clear b2
      unfold QV
      go_wp2_with (refine wpList_store_row rfl 26 (.tmp 7) (.tmp 20) rfl (w.heap.size + 2) (qcells (s + rvq g A B)) rfl rfl 26 (qcells s) H2.out.a info26.out rfl (qone _) ?_)
      go_roundw
      case rel => exact ⟨k + 1, by omega, by go_num, Lib.hid (by rw [HE.out.2]; exact H2.out.store _)⟩
      case measure => (simp [intOf]; omega)
    · obtain rfl : k = l.length := by omega
      rw [List.take_length] at hF
      have c3 : wr.cell? ⟨w.heap.size + 2, 0, none⟩ = some (.bool (decide ((sumq l).num < 0))) := cell_of_row _ _ 0 _ _ _ hF.out.a
      have c4 : wr.cell? ⟨w.heap.size + 2, 1, none⟩ = some (.string (NB (sumq l).num.natAbs)) := cell_of_row _ _ 1 _ _ _ hF.out.a
      have c5 : wr.cell? ⟨w.heap.size + 2, 2, none⟩ = some (.string (NB (sumq l).den)) := cell_of_row _ _ 2 _ _ _ hF.out.a
      go_wp2_with (refine wpList_store_row rfl 26 (.tmp 6) (.tmp 22) rfl (w.heap.size + 1) (qcells (sumq l)) rfl rfl 26 zrow hF.out.z info26.out rfl (qone _) ?_)
      refine bodyPost_ret (results_cell_row rfl _ _ (w.heap.size + 1) _ (qcells (sumq l)) _ _ rfl (setRow_heap _ _ _ _ _ _ hF.out.z) Tryz.underlying26 rfl info26.out) rfl ?_
      exact ⟨rfl, Below.setRow' hF.out.b (by omega) _⟩
set_option maxRecDepth 100000 in
set_option maxHeartbeats 4000000 in
theorem qSum (w : World) (b cap : Nat) (l : List T3) (N : Nat) (hR : RL w b l) (hb : b < w.heap.size) (hs : SzL N l) (hN1 : 1 ≤ N) (hN : N + l.length * (N + 1) ≤ 1000000) (hn : l.length ≤ cap) (hl : l.length ≤ 1000000) (hT : Tb w) :
    Calls Tryz.prog 30 #[.slice (some ⟨b, 0, none⟩) l.length cap] w fun e w' => e = .returned (QV (sumq l)) ∧ Below w.heap.size w w' := by
  have h0 := z1_start w
  obtain ⟨W, hW⟩ : ∃ W, w.alloc (.cells zrow 26) = W := ⟨_, rfl⟩
  rw [hW] at h0
  have FF := Lib.hid (foldq_any W b cap l N (hR.below h0.b hb) (Nat.lt_of_lt_of_le hb h0.b.size) hs hN1 hN hn hl (hT.below h0.b))
  have HW := Lib.hid (And.intro hW h0)
  obtain ⟨z0, z1, z2⟩ := (hT.below h0.b).z
  clear hW h0 hR hb hs hT hN1 hN
  go_enter Tryz.func30, Tryz.ntmps30
  go_upto_region 1 with fail
  change Code.wp _ _ _ _ (w.alloc (.cells zrow 26))
  rw [HW.out.1]
  go_wp2_with fail
  refine FF.out.mono ?_
  rintro e w2 ⟨rfl, b2⟩
  have H2 := Lib.hid (HW.out.2.next b2)
  clear b2
  unfold QV
  go_wp2_with (refine wpList_store_row rfl 26 (.tmp 2) (.tmp 5) rfl w.heap.size (qcells (sumq l)) rfl rfl 26 zrow H2.out.z info26.out rfl (qone _) ?_)
  refine bodyPost_ret (results_cell_row rfl _ _ w.heap.size _ (qcells (sumq l)) _ _ rfl (setRow_heap _ _ _ _ _ _ H2.out.z) Tryz.underlying26 rfl info26.out) rfl ?_
  exact ⟨rfl, Below.setRow' H2.out.b (Nat.le_refl _) _⟩
end Go.Proofs.YteccbedmpjeamaaGreatDoor
namespace Go.Proofs.YteccbedmpjeamaaGreatDoor
open Go.RowKit NM QM
/-- the least common multiple, as the code computes it -/
def lc (d e : Nat) : Nat := d / d.gcd e * e
theorem lc_lcm (d e : Nat) : lc d e = d.lcm e := by
  unfold lc Nat.lcm
  rw [Nat.div_mul_right_comm (Nat.gcd_dvd_left d e)]
def lcl (l : List T3) : Nat := l.foldl (fun d t => lc d (rv3 t).den) 1
theorem lcl_snoc (l : List T3) (t : T3) : lcl (l ++ [t]) = lc (lcl l) (rv3 t).den := by unfold lcl; rw [List.foldl_append]; rfl
theorem lc_pos {d e : Nat} (hd : 0 < d) (he : 0 < e) : 0 < lc d e := by rw [lc_lcm]; exact Nat.lcm_pos hd he
theorem lcl_pos (l : List T3) (k : Nat) (hk : k ≤ l.length) : 0 < lcl (l.take k) := by
  induction k with
  | zero => rw [List.take_zero]; decide
  | succ k ih =>
    rw [List.take_succ_eq_append_getElem (by omega), lcl_snoc]
    exact lc_pos (ih (by omega)) (rv3 _).den_pos
theorem lc_lt {d e M N : Nat} (hd : d < 256^M) (he : e < 256^N) : lc d e < 256^(M + N) := mul_lt (div_lt hd) he
theorem lcl_small (N : Nat) (l : List T3) (hs : SzL N l) (hN : 1 ≤ N) (k : Nat) (hk : k ≤ l.length) : lcl (l.take k) < 256^(1 + k * N) := by
  induction k with
  | zero => rw [List.take_zero]; exact Nat.lt_of_lt_of_le (show (1 : Nat) < 256^1 by decide) (Nat.pow_le_pow_right (by omega) (by omega))
  | succ k ih =>
    have hlt : k < l.length := by omega
    have hm := hs l[k] (List.getElem_mem hlt)
    rw [List.take_succ_eq_append_getElem hlt, lcl_snoc]
    have h := lc_lt (ih (by omega)) (SmQ_rvq l[k].1 l[k].2.1 l[k].2.2 N hm.1 hm.2 hN).2
    exact lt_wide h (by rw [Nat.add_mul]; omega)
/-- a good element's parts -/
theorem good_parts {t : T3} (h : badq t = false) : t.1 = decide ((rv3 t).num < 0) ∧ t.2.1 = NB (rv3 t).num.natAbs ∧ t.2.2 = NB (rv3 t).den := by
  unfold badq at h
  have h1 : okq t.1 t.2.1 t.2.2 = true := by cases hk : okq t.1 t.2.1 t.2.2 <;> simp [hk] at h ⊢
  unfold rv3 rvq
  rw [if_pos h1]
  unfold okq at h1
  rw [Bool.and_eq_true] at h1
  exact of_decide_eq_true h1.2
set_option maxRecDepth 100000 in
set_option maxHeartbeats 4000000 in
theorem com1_q (w : World) (d e : Nat) (g : Bool) (A : ByteArray) (M : Nat) (hd : d < 256^M) (he : e < 256^M) (he0 : e ≠ 0) (hM : M ≤ 1000000) (hT : Tb w) :
    Calls Tryz.prog 73 #[.string (NB d), RW g A (NB e)] w fun en w' => en = .returned (.string (NB (lc d e))) ∧ Below w.heap.size w w' := by
  have cp : 0 < d.gcd e := Nat.gcd_pos_of_pos_right _ (by omega)
  have cl : d.gcd e < 256^M := gcd_lt_r he (by omega)
  have G1 := fun W' (h : Below w.heap.size w W') => gcd_q W' d e M hd he (by omega) (hT.t.below h hT.g) (Nat.lt_of_lt_of_le hT.g h.size)
  have O1 := fun W' => over_q W' d (d.gcd e) M hd cl (by omega) (by omega)
  have M1 := fun W' => mul_q W' (d / d.gcd e) e M (div_lt hd) he (by omega)
  unfold lc
  generalize NB (d / d.gcd e * e) = R at *
  generalize NB (d / d.gcd e) = D1 at *
  generalize NB (d.gcd e) = GC at *
  generalize NB d = D at *
  generalize NB e = B at *
  have HC := Lib.hid (And.intro G1 (And.intro O1 M1))
  clear G1 O1 M1 cp cl hd he he0 hT
  have hs := r1_start w (rrow g A B)
  obtain ⟨W, hW⟩ : ∃ W, w.alloc (.cells (rrow g A B) 26) = W := ⟨_, rfl⟩
  rw [hW] at hs
  have HW := Lib.hid (And.intro hW hs)
  clear hW hs
  unfold RW
  go_enter Tryz.func73, Tryz.ntmps73
  go_upto_region 1 with fail
  change Code.wp _ _ _ _ (w.alloc (.cells (rrow g A B) 26))
  rw [HW.out.1]
  refine wp_region_held_drew (S := R1 w (rrow g A B)) (by kernel_rfl) ⟨HW.out.2.r, HW.out.2.lt, HW.out.2.b.drew⟩ (fun hS => ?_)
  clear HW
  refine wpAnyH_take (i := 0) (oi := { dst := some 5, op := Op.move (Operand.tmp 0), type := 24, pos := "list.go:21", after := #[], guard := none }) (v := ?vcc0) rfl (by kernel_rfl) (by kernel_rfl) (by kernel_rfl) (fun _ _ _ h => h) (Or.inl ⟨by rfl, ?ycc0⟩) hS ?rcc0
  case ycc0 => (intro w hS; go_simp; try with_reducible rfl)
  refine wpAnyH_take (i := 1) (oi := { dst := some 6, op := Op.move (Operand.tmp 0), type := 24, pos := "list.go:21", after := #[], guard := none }) (v := ?vcc1) rfl (by kernel_rfl) (by kernel_rfl) (by kernel_rfl) (fun _ _ _ h => h) (Or.inl ⟨by rfl, ?ycc1⟩) hS ?rcc1
  case ycc1 => (intro w hS; go_simp; try with_reducible rfl)
  refine wpAnyH_take (i := 2) (oi := { dst := some 7, op := Op.fieldAddr 26 (Operand.tmp 3) 2, type := 0, pos := "list.go:21", after := #[], guard := none }) (v := ?vcc2) rfl (by kernel_rfl) (by kernel_rfl) (by kernel_rfl) (fun _ _ _ h => h) (Or.inl ⟨by rfl, ?ycc2⟩) hS ?rcc2
  case ycc2 => (intro w hS; go_simp; try with_reducible rfl)
  refine wpAnyH_take (i := 6) (oi := { dst := some 11, op := Op.fieldAddr 26 (Operand.tmp 3) 2, type := 0, pos := "list.go:21", after := #[], guard := none }) (v := ?vcc6) rfl (by kernel_rfl) (by kernel_rfl) (by kernel_rfl) (fun _ _ _ h => h) (Or.inl ⟨by rfl, ?ycc6⟩) hS ?rcc6
  case ycc6 => (intro w hS; go_simp; try with_reducible rfl)
  go_simp
  refine wpAnyH_take (i := 3) (oi := { dst := some 8, op := Op.load 24 (Operand.tmp 7), type := 24, pos := "list.go:21", after := #[{ on := 2, ground := Ground.data }], guard := none }) (v := .string B) rfl (by kernel_rfl) (by kernel_rfl) (by kernel_rfl) (fun _ _ _ h => h) (Or.inl ⟨by rfl, ?ycc3⟩) hS ?rcc3
  case ycc3 => (intro w' hS; have cf := (show w'.cell? ⟨w.heap.size, 2, none⟩ = some (.string B) from cell_of_row _ _ 2 _ _ _ hS.r); go_simp; try with_reducible rfl)
  refine wpAnyH_take (i := 7) (oi := { dst := some 12, op := Op.load 24 (Operand.tmp 11), type := 24, pos := "list.go:21", after := #[{ on := 6, ground := Ground.data }], guard := none }) (v := .string B) rfl (by kernel_rfl) (by kernel_rfl) (by kernel_rfl) (fun _ _ _ h => h) (Or.inl ⟨by rfl, ?ycc7⟩) hS ?rcc7
  case ycc7 => (intro w' hS; have cf := (show w'.cell? ⟨w.heap.size, 2, none⟩ = some (.string B) from cell_of_row _ _ 2 _ _ _ hS.r); go_simp; try with_reducible rfl)
  go_simp
  refine wpAnyH_ready (rs := [4]) (by kernel_rfl) (by simp) ?_
  refine AllReadyH.cons (o := { dst := some 9, op := Op.call { callee := Callee.value (Operand.func 64), args := #[Operand.tmp 6, Operand.tmp 8], argTypes := #[24, 24] }, type := 24, pos := "list.go:21", after := #[{ on := 1, ground := Ground.data }, { on := 3, ground := Ground.data }], guard := none }) rfl (fun K hK => ?_) AllReadyH.nil
  go_simp
  go_at_call 64
  refine (HC.out.1 _ hS.b).mono ?_
  rintro e w' ⟨rfl, b⟩
  have hS2 := hS.next b
  clear b hS
  try go_simp
  refine hK.out _ _ hS2 (fun hS => ?_)
  clear hK K hS2
  refine wpAnyH_ready (rs := [5]) (by kernel_rfl) (by simp) ?_
  refine AllReadyH.cons (o := { dst := some 10, op := Op.call { callee := Callee.value (Operand.func 66), args := #[Operand.tmp 5, Operand.tmp 9], argTypes := #[24, 24] }, type := 24, pos := "list.go:21", after := #[{ on := 0, ground := Ground.data }, { on := 4, ground := Ground.data }, { on := 4, ground := Ground.chain }], guard := none }) rfl (fun K hK => ?_) AllReadyH.nil
  go_simp
  go_at_call 66
  refine (HC.out.2.1 _).mono ?_
  rintro e w' ⟨rfl, b⟩
  have hS2 := hS.next b
  clear b hS
  try go_simp
  refine hK.out _ _ hS2 (fun hS => ?_)
  clear hK K hS2
  refine wpAnyH_ready (rs := [8]) (by kernel_rfl) (by simp) ?_
  refine AllReadyH.cons (o := { dst := some 13, op := Op.call { callee := Callee.value (Operand.func 56), args := #[Operand.tmp 10, Operand.tmp 12], argTypes := #[24, 24] }, type := 24, pos := "list.go:21", after := #[{ on := 5, ground := Ground.data }, { on := 7, ground := Ground.data }, { on := 5, ground := Ground.chain }], guard := none }) rfl (fun K hK => ?_) AllReadyH.nil
  go_simp
  go_at_call 56
  refine (HC.out.2.2 _).mono ?_
  rintro e w' ⟨rfl, b⟩
  have hS2 := hS.next b
  clear b hS
  try go_simp
  refine hK.out _ _ hS2 (fun hS => ?_)
  clear hK K hS2
  refine wpAnyH_take (i := 9) (oi := { dst := some 4, op := Op.assign (Operand.tmp 13), type := 24, pos := "list.go:21", after := #[{ on := 8, ground := Ground.data }, { on := 8, ground := Ground.chain }, { on := 0, ground := Ground.phase }, { on := 1, ground := Ground.phase }, { on := 2, ground := Ground.phase }, { on := 3, ground := Ground.phase }, { on := 4, ground := Ground.phase }, { on := 5, ground := Ground.phase }, { on := 6, ground := Ground.phase }, { on := 7, ground := Ground.phase }, { on := 8, ground := Ground.phase }], guard := none }) (v := ?vcc9) rfl (by kernel_rfl) (by kernel_rfl) (by kernel_rfl) (fun _ _ _ h => h) (Or.inl ⟨by rfl, ?ycc9⟩) hS ?rcc9
  case ycc9 => (intro w hS; go_simp; try with_reducible rfl)
  refine wpAnyH_done (by kernel_rfl) ?_ _
  go_wp2
  go_ret
  exact ⟨rfl, hS.b⟩
set_option maxRecDepth 100000 in
set_option maxHeartbeats 4000000 in
theorem foldn_any (w : World) (b cap : Nat) (l : List T3) (N : Nat) (hR : RL w b l) (hb : b < w.heap.size) (hs : SzL N l) (hN1 : 1 ≤ N) (hN : 1 + l.length * N + N ≤ 1000000) (hn : l.length ≤ cap) (hl : l.length ≤ 1000000) (hT : Tb w) (hg : l.any badq = false) :
    Calls Tryz.prog 72 #[.slice (some ⟨b, 0, none⟩) l.length cap, .string ⟨#[1]⟩, .func (.func 73) #[] #[]] w fun e w' => e = .returned (.string (NB (lcl l))) ∧ Below w.heap.size w w' := by
  have HR := Lib.hid (And.intro hR (And.intro hb (And.intro hs (And.intro hT (And.intro hN1 (And.intro hN hg))))))
  clear hR hb hs hT hN1 hN hg
  go_enter Tryz.func72, Tryz.ntmps72
  go_wp2
  go_loopw [7, 13] (fun s i wr => ∃ k : Nat, k ≤ l.length ∧ i = .int .i64 k ∧ s = .string (NB (lcl (l.take k))) ∧ Hid (Below w.heap.size w wr)) (fun _ i _ => l.length - (intOf i).toNat)
  case atStart => exact ⟨0, Nat.zero_le _, rfl, by rw [List.take_zero]; exact congrArg Value.string NB_one.symm, Lib.hid (Below.refl _ _)⟩
  case round =>
    obtain ⟨k, hk, rfl, rfl, hB⟩ := hrel
    by_cases hlt : k < l.length
    · obtain ⟨c0, c1, c2⟩ := (HR.out.1.below hB.out HR.out.2.1) k hlt
      have hm := HR.out.2.2.1 l[k] (List.getElem_mem hlt)
      have htk : l.take (k + 1) = l.take k ++ [l[k]] := by rw [List.take_succ_eq_append_getElem hlt]
      have hsm := lcl_small N l HR.out.2.2.1 HR.out.2.2.2.2.1 k hk
      have hbad : badq l[k] = false := by
        have h := HR.out.2.2.2.2.2.2
        rw [List.any_eq_false] at h
        simpa using h _ (List.getElem_mem hlt)
      have hgp := good_parts hbad
      have hrs := (SmQ_rvq l[k].1 l[k].2.1 l[k].2.2 N hm.1 hm.2 HR.out.2.2.2.2.1).2
      have hsum := lcl_snoc (l.take k) l[k]
      rw [← htk] at hsum
      change (rv3 l[k]).den < _ at hrs
      obtain ⟨g, hg'⟩ : ∃ g, l[k].1 = g := ⟨_, rfl⟩
      obtain ⟨A, hA'⟩ : ∃ A, l[k].2.1 = A := ⟨_, rfl⟩
      rw [hg'] at c0
      rw [hA'] at c1
      rw [hgp.2.2] at c2
      have hden := (rv3 l[k]).den_nz
      generalize (rv3 l[k]).den = e at *
      have hMM := Nat.add_le_add_left (Nat.mul_le_mul_right N hk) 1
      have EE := fun W (h : Below w.heap.size w W) => com1_q W (lcl (l.take k)) e g A (1 + k * N + N) (lt_wide hsm (by omega)) (lt_wide hrs (by omega)) hden (by have := HR.out.2.2.2.2.2.1; omega) (HR.out.2.2.2.1.belowB h (Nat.le_refl _))
      have HE := Lib.hid (And.intro EE hsum)
      clear EE hsum hsm hrs htk hm hgp hbad hg' hA' hden hMM
      generalize NB (lcl (l.take k)) = D at *
      have hBo := hB.out.size
      generalize NB e = B at *
      go_upto_region 5 with fail
      have x1 := heap_alloc_new wr (.cells (rrow g A B) 26)
      have x2 := Lib.hid (hB.out.alloc hB.out.size (.cells (rrow g A B) 26))
      change Code.wp _ _ _ _ (wr.alloc (.cells (rrow g A B) 26))
      generalize wr.alloc (.cells (rrow g A B) 26) = Y at *
      clear c0 c1 c2
      have d0 : Y.cell? ⟨wr.heap.size, 0, none⟩ = some (.bool g) := cell_of_row _ _ 0 _ _ _ x1
      have d1 : Y.cell? ⟨wr.heap.size, 1, none⟩ = some (.string A) := cell_of_row _ _ 1 _ _ _ x1
      have d2 : Y.cell? ⟨wr.heap.size, 2, none⟩ = some (.string B) := cell_of_row _ _ 2 _ _ _ x1
      clear x1
      go_wp2_with fail
      refine (HE.out.1 _ x2.out).mono ?_
      rintro e w2 ⟨rfl, b2⟩
      have H2 := Lib.hid (x2.out.trans (b2.mono x2.out.size))
      clear b2
      go_wp2
      go_roundw
      case rel => exact ⟨k + 1, by omega, by go_num, by rw [HE.out.2], H2⟩
      case measure => (simp [intOf]; omega)
    · obtain rfl : k = l.length := by omega
      rw [List.take_length]
      go_wp2
      go_ret
      exact ⟨rfl, hB.out⟩
theorem infoN : (Tryz.prog.info? 24).map (fun i => (i.zero, i.size, i.bytes)) = some (some (.string ⟨#[]⟩), 1, 16) := by kernel_rfl
theorem make_strs (n : Nat) (hn : n ≤ 1000000) (u : World) : (Instr.makeSlice 50 (.int .i64 (n : Int)) (.int .i64 (n : Int))).run Tryz.prog u =
    .ok (.slice (some ⟨u.heap.size, 0, none⟩) n n) (u.alloc (.cells (madeCells #[.string ⟨#[]⟩] n) 24)) := by
  obtain ⟨i0, hi, hz0, hz1, hz2⟩ := info_parts infoN
  have h := run_make (P := Tryz.prog) u 50 24 i0 (.string ⟨#[]⟩) Tryz.underlying50 hi hz0 .i64 .i64 (n : Int) (n : Int) (by omega) (Int.le_refl _) (by rw [hz2]; omega) (by omega)
  simpa [hz1, Value.cells] using h
/-- n strings lie in block p, which may be written -/
def SR (w : World) (p n : Nat) (F : Nat → ByteArray) : Prop := ∀ j, j < n → w.cell? ⟨p, j, none⟩ = some (.string (F j)) ∧ w.frozen? ⟨p, j, none⟩ = false
theorem SR.below {B p n : Nat} {F : Nat → ByteArray} {u w : World} (h : SR u p n F) (hb : Below B u w) (hB : p < B) : SR w p n F := fun j hj =>
  ⟨(hb.cell (p := ⟨p, j, none⟩) hB).trans (h j hj).1, (hb.frozen (p := ⟨p, j, none⟩) hB).trans (h j hj).2⟩
theorem SR.made (n : Nat) (u : World) : SR (u.alloc (.cells (madeCells #[.string ⟨#[]⟩] n) 24)) u.heap.size n (fun _ => ⟨#[]⟩) := fun j hj => by
  constructor
  · rw [World.cell?_alloc_at _ _ _ _ rfl, ← Array.getElem?_toList, toList_madeCells_one, List.getElem?_replicate, if_pos hj]
  · rw [World.frozen?_alloc_at _ _ _ _ rfl]
theorem SR.set {w : World} {p n : Nat} {F : Nat → ByteArray} (h : SR w p n F) (k : Nat) (R : ByteArray) (hk : k < n) : SR (w.setCell ⟨p, k, none⟩ (.string R)) p n (fun j => if j = k then R else F j) := fun j hj => by
  refine ⟨?_, by rw [World.frozen?_setCell]; exact (h j hj).2⟩
  by_cases e : j = k
  · subst e; simp only [if_true]; exact World.cell?_setCell_same _ _ _ (h j hj).1
  · simp only [if_neg e]; rw [World.cell?_setCell_other _ _ _ _ (by intro e2; simp at e2; try omega)]; exact (h j hj).1
theorem SR.ext {w : World} {p n : Nat} {F G : Nat → ByteArray} (h : SR w p n F) (he : ∀ j, j < n → F j = G j) : SR w p n G := fun j hj => ⟨by rw [← he j hj]; exact (h j hj).1, (h j hj).2⟩
/-- the numerators over the common denominator -/
def wh (l : List T3) (j : Nat) : ByteArray := NB ((rv3 (l.getD j (false, ⟨#[]⟩, ⟨#[]⟩))).num.natAbs * (lcl l / (rv3 (l.getD j (false, ⟨#[]⟩, ⟨#[]⟩))).den))
def whk (l : List T3) (k j : Nat) : ByteArray := if j < k then wh l j else ⟨#[]⟩
def ComQ (l : List T3) (w : World) (e : Ending) (w' : World) : Prop :=
  (l.any badq = true ∧ e = .returned (.tuple #[.string ⟨#[]⟩, .slice none 0 0, .bool false]) ∧ Below w.heap.size w w') ∨
  (l.any badq = false ∧ ∃ g, w.heap.size ≤ g ∧ g < w'.heap.size ∧ e = .returned (.tuple #[.string (NB (lcl l)), .slice (some ⟨g, 0, none⟩) l.length l.length, .bool true]) ∧ SR w' g l.length (wh l) ∧ Below w.heap.size w w')
/-- an element's block, behind the result's -/
structure G8 (w : World) (wb pa : Nat) (cs : Array Value) (W : World) : Prop where
  r : W.heap[pa]? = some (.cells cs 26 (0, 0))
  lt : pa < W.heap.size
  wpa : wb < pa
  wlt : wb < W.heap.size
  hw : w.heap.size ≤ wb
  b : Below w.heap.size w W
theorem G8.next {w u v : World} {wb pa : Nat} {cs : Array Value} (h : G8 w wb pa cs u) (k : Below u.heap.size u v) : G8 w wb pa cs v :=
  ⟨(k.block _ h.lt).trans h.r, Nat.lt_of_lt_of_le h.lt k.size, h.wpa, Nat.lt_of_lt_of_le h.wlt k.size, h.hw, h.b.trans (k.mono h.b.size)⟩
theorem G8.drew {w u : World} {wb pa : Nat} {cs : Array Value} (h : G8 w wb pa cs u) : G8 w wb pa cs u.drew := ⟨h.r, h.lt, h.wpa, h.wlt, h.hw, h.b.drew⟩
theorem G8.store {w u : World} {wb pa : Nat} {cs : Array Value} (h : G8 w wb pa cs u) {k : Nat} {v : Value} : G8 w wb pa cs (u.setCell ⟨wb, k, none⟩ v) := by
  have hb := (Below.refl (wb) u).setCell (p := ⟨wb, k, none⟩) (Nat.le_refl _) v
  refine ⟨?_, by rw [Deep.nblk_setCell]; exact h.lt, h.wpa, by rw [Deep.nblk_setCell]; exact h.wlt, h.hw, h.b.setCell (p := ⟨wb, k, none⟩) h.hw v⟩
  rw [Deep.blk_setCell_other _ _ _ _ (by have := h.wpa; show pa ≠ wb; omega)]; exact h.r
set_option maxRecDepth 100000 in
set_option maxHeartbeats 8000000 in
theorem qCommon (w : World) (b cap : Nat) (l : List T3) (N : Nat) (hR : RL w b l) (hb : b < w.heap.size) (hs : SzL N l) (hN1 : 1 ≤ N) (hN : 1 + l.length * N + N ≤ 1000000) (hn : l.length ≤ cap) (hl : l.length ≤ 1000000) (hT : Tb w) :
    Calls Tryz.prog 39 #[.slice (some ⟨b, 0, none⟩) l.length cap] w (ComQ l w) := by
  have CC := Lib.hid (con_any w b cap l N hR hb hs (by omega) hn hl hT)
  by_cases hany : l.any badq = true
  · have HA := Lib.hid hany
    clear hR hb hs hN1 hN hT hany
    go_enter Tryz.func39, Tryz.ntmps39
    go_wp2_with fail
    refine CC.out.mono ?_
    rintro e w1 ⟨rfl, b1⟩
    rw [HA.out]
    have HB := Lib.hid b1
    clear b1
    go_wp2
    go_ret3
    exact .inl ⟨HA.out, rfl, HB.out⟩
  · have hany2 : l.any badq = false := by simpa using hany
    have FF := fun W (h : Below w.heap.size w W) => foldn_any W b cap l N (hR.below h hb) (Nat.lt_of_lt_of_le hb h.size) hs hN1 hN hn hl (hT.belowB h (Nat.le_refl _)) hany2
    have HR := Lib.hid (And.intro hR (And.intro hb (And.intro hs (And.intro hT (And.intro hN1 (And.intro hN hany2))))))
    have HF := Lib.hid FF
    have hmk := fun W => make_strs l.length hl W
    clear hR hb hs hT hN1 hN hany FF hany2
    have hln : (l.length : Int) ≤ 1000000 := by omega
    go_enter Tryz.func39, Tryz.ntmps39
    go_wp2_with fail
    refine CC.out.mono ?_
    rintro e w1 ⟨rfl, b1⟩
    rw [HR.out.2.2.2.2.2.2]
    have HB1 := Lib.hid b1
    clear b1 CC
    go_wp2_with fail
    refine (HF.out _ HB1.out).mono ?_
    rintro e w2 ⟨rfl, b2⟩
    have HB2 := Lib.hid (HB1.out.trans (b2.mono HB1.out.size))
    clear b2 HF HB1
    have hsz := HB2.out.size
    go_upto_region 5 with fail
    have hsr := SR.made l.length w2
    have hb3 := HB2.out.alloc hsz (.cells (madeCells #[.string ⟨#[]⟩] l.length) 24)
    have hlt3 : w2.heap.size < (w2.alloc (.cells (madeCells #[.string ⟨#[]⟩] l.length) 24)).heap.size := by simp
    generalize w2.alloc (.cells (madeCells #[.string ⟨#[]⟩] l.length) 24) = W3 at *
    generalize w2.heap.size = wb at *
    clear hmk
    have H3 := Lib.hid (And.intro hsr (And.intro hb3 hlt3))
    clear hsr hb3 hlt3 HB2
    go_wp2
    go_loopw [20] (fun i wr => ∃ k : Nat, k ≤ l.length ∧ i = .int .i64 k ∧ Hid (SR wr wb l.length (whk l k) ∧ wb < wr.heap.size ∧ Below w.heap.size w wr)) (fun i _ => l.length - (intOf i).toNat)
    case atStart => exact ⟨0, Nat.zero_le _, rfl, Lib.hid ⟨H3.out.1.ext (fun j hj => by unfold whk; rw [if_neg (by omega)]), H3.out.2.2, H3.out.2.1⟩⟩
    case round =>
      clear H3
      obtain ⟨k, hk, rfl, hI⟩ := hrel
      by_cases hlt : k < l.length
      · obtain ⟨c0, c1, c2⟩ := (HR.out.1.below hI.out.2.2 HR.out.2.1) k hlt
        have hm := HR.out.2.2.1 l[k] (List.getElem_mem hlt)
        have hbad : badq l[k] = false := by
          have h := HR.out.2.2.2.2.2.2
          rw [List.any_eq_false] at h
          simpa using h _ (List.getElem_mem hlt)
        have hgp := good_parts hbad
        have hrs := SmQ_rvq l[k].1 l[k].2.1 l[k].2.2 N hm.1 hm.2 HR.out.2.2.2.2.1
        change SmQ N (rv3 l[k]) at hrs
        have hL := lcl_small N l HR.out.2.2.1 HR.out.2.2.2.2.1 l.length (Nat.le_refl _)
        rw [List.take_length] at hL
        have hwh : wh l k = NB ((rv3 l[k]).num.natAbs * (lcl l / (rv3 l[k]).den)) := by unfold wh; rw [List.getD_eq_getElem?_getD, List.getElem?_eq_getElem hlt]; rfl
        obtain ⟨g, hg'⟩ : ∃ g, l[k].1 = g := ⟨_, rfl⟩
        rw [hg'] at c0
        rw [hgp.2.1] at c1
        rw [hgp.2.2] at c2
        have hden := (rv3 l[k]).den_nz
        have hMM := HR.out.2.2.2.2.2.1
        have O1 := fun W' => over_q W' (lcl l) (rv3 l[k]).den (1 + l.length * N + N) (lt_wide hL (by omega)) (lt_wide hrs.2 (by omega)) (by omega) hden
        have O2 := fun W' => mul_q W' (rv3 l[k]).num.natAbs (lcl l / (rv3 l[k]).den) (1 + l.length * N + N) (lt_wide hrs.1 (by omega)) (div_lt (lt_wide hL (by omega))) (by omega)
        rw [← hwh] at O2
        generalize NB (lcl l / (rv3 l[k]).den) = Q1 at *
        generalize NB (rv3 l[k]).num.natAbs = A at *
        generalize NB (rv3 l[k]).den = B at *
        obtain ⟨R, hRR⟩ : ∃ R, wh l k = R := ⟨_, rfl⟩
        rw [hRR] at O2
        have HO := Lib.hid (And.intro O1 O2)
        have HRR := Lib.hid hRR
        clear O1 O2 hRR hwh hL hrs hgp hbad hm hg' hden hMM
        have hwb := hI.out.2.1
        go_upto_region 8 with fail
        have hz := hI.out.1.below ((Below.refl wr.heap.size wr).alloc (Nat.le_refl _) (.cells (rrow g A B) 26)) hwb
        have h8 : G8 w wb wr.heap.size (rrow g A B) (wr.alloc (.cells (rrow g A B) 26)) := ⟨heap_alloc_new _ _, by simp, hwb, by simp; omega, hsz, hI.out.2.2.alloc hI.out.2.2.size _⟩
        change Code.wp _ _ _ _ (wr.alloc (.cells (rrow g A B) 26))
        generalize wr.alloc (.cells (rrow g A B) 26) = Y at *
        obtain ⟨pa, hpa⟩ : ∃ pa, wr.heap.size = pa := ⟨_, rfl⟩
        rw [hpa] at h8 ⊢
        clear c0 c1 c2 hI hpa hwb
        replace hz : SR Y.drew wb l.length (whk l k) := hz
        refine wp_region_held_drew (S := G8 w wb pa (rrow g A B)) (by kernel_rfl) h8.drew (fun hS => ?_)
        clear h8
        refine wpAnyH_take (i := 0) (oi := { dst := some 25, op := Op.move (Operand.tmp 6), type := 50, pos := "list.go:25", after := #[], guard := none }) (v := ?vcd0) rfl (by kernel_rfl) (by kernel_rfl) (by kernel_rfl) (fun _ _ _ h => h) (Or.inl ⟨by rfl, ?ycd0⟩) hS ?rcd0
        case ycd0 => (intro w hS; go_simp; try with_reducible rfl)
        refine wpAnyH_take (i := 1) (oi := { dst := some 26, op := Op.move (Operand.tmp 7), type := 3, pos := "list.go:25", after := #[], guard := none }) (v := ?vcd1) rfl (by kernel_rfl) (by kernel_rfl) (by kernel_rfl) (fun _ _ _ h => h) (Or.inl ⟨by rfl, ?ycd1⟩) hS ?rcd1
        case ycd1 => (intro w hS; go_simp; try with_reducible rfl)
        refine wpAnyH_take (i := 2) (oi := { dst := some 27, op := Op.fieldAddr 26 (Operand.tmp 8) 1, type := 0, pos := "list.go:25", after := #[], guard := none }) (v := ?vcd2) rfl (by kernel_rfl) (by kernel_rfl) (by kernel_rfl) (fun _ _ _ h => h) (Or.inl ⟨by rfl, ?ycd2⟩) hS ?rcd2
        case ycd2 => (intro w hS; go_simp; try with_reducible rfl)
        refine wpAnyH_take (i := 4) (oi := { dst := some 29, op := Op.move (Operand.tmp 5), type := 24, pos := "list.go:25", after := #[], guard := none }) (v := ?vcd4) rfl (by kernel_rfl) (by kernel_rfl) (by kernel_rfl) (fun _ _ _ h => h) (Or.inl ⟨by rfl, ?ycd4⟩) hS ?rcd4
        case ycd4 => (intro w hS; go_simp; try with_reducible rfl)
        refine wpAnyH_take (i := 5) (oi := { dst := some 30, op := Op.fieldAddr 26 (Operand.tmp 8) 2, type := 0, pos := "list.go:25", after := #[], guard := none }) (v := ?vcd5) rfl (by kernel_rfl) (by kernel_rfl) (by kernel_rfl) (fun _ _ _ h => h) (Or.inl ⟨by rfl, ?ycd5⟩) hS ?rcd5
        case ycd5 => (intro w hS; go_simp; try with_reducible rfl)
        go_simp
        refine wpAnyH_take (i := 3) (oi := { dst := some 28, op := Op.load 24 (Operand.tmp 27), type := 24, pos := "list.go:25", after := #[{ on := 2, ground := Ground.data }], guard := none }) (v := .string A) rfl (by kernel_rfl) (by kernel_rfl) (by kernel_rfl) (fun _ _ _ h => h) (Or.inl ⟨by rfl, ?ycd3⟩) hS ?rcd3
        case ycd3 => (intro w' hS; have cf := (show w'.cell? ⟨pa, 1, none⟩ = some (.string A) from cell_of_row _ _ 1 _ _ _ hS.r); go_simp; try with_reducible rfl)
        refine wpAnyH_take (i := 6) (oi := { dst := some 31, op := Op.load 24 (Operand.tmp 30), type := 24, pos := "list.go:25", after := #[{ on := 5, ground := Ground.data }], guard := none }) (v := .string B) rfl (by kernel_rfl) (by kernel_rfl) (by kernel_rfl) (fun _ _ _ h => h) (Or.inl ⟨by rfl, ?ycd6⟩) hS ?rcd6
        case ycd6 => (intro w' hS; have cf := (show w'.cell? ⟨pa, 2, none⟩ = some (.string B) from cell_of_row _ _ 2 _ _ _ hS.r); go_simp; try with_reducible rfl)
        go_simp
        refine wpAnyH_ready (rs := [7]) (by kernel_rfl) (by simp) ?_
        refine AllReadyH.cons (o := { dst := some 32, op := Op.call { callee := Callee.value (Operand.func 66), args := #[Operand.tmp 29, Operand.tmp 31], argTypes := #[24, 24] }, type := 24, pos := "list.go:25", after := #[{ on := 4, ground := Ground.data }, { on := 6, ground := Ground.data }], guard := none }) rfl (fun K hK => ?_) AllReadyH.nil
        go_simp
        go_at_call 66
        refine (HO.out.1 _).mono ?_
        rintro e w' ⟨rfl, b⟩
        have hS2 := hS.next b
        have hz2 := hz.below b hS.wlt
        clear hz
        have hz := hz2
        clear hz2
        clear b hS
        try go_simp
        refine hK.out _ _ hS2 (fun hS => ?_)
        clear hK K hS2
        refine wpAnyH_ready (rs := [8]) (by kernel_rfl) (by simp) ?_
        refine AllReadyH.cons (o := { dst := some 33, op := Op.call { callee := Callee.value (Operand.func 56), args := #[Operand.tmp 28, Operand.tmp 32], argTypes := #[24, 24] }, type := 24, pos := "list.go:25", after := #[{ on := 3, ground := Ground.data }, { on := 7, ground := Ground.data }, { on := 7, ground := Ground.chain }], guard := none }) rfl (fun K hK => ?_) AllReadyH.nil
        go_simp
        go_at_call 56
        refine (HO.out.2 _).mono ?_
        rintro e w' ⟨rfl, b⟩
        have hS2 := hS.next b
        have hz2 := hz.below b hS.wlt
        clear hz
        have hz := hz2
        clear hz2
        clear b hS
        try go_simp
        refine hK.out _ _ hS2 (fun hS => ?_)
        clear hK K hS2
        refine wpAnyH_take (i := 9) (oi := { dst := some 34, op := Op.indexAddr 50 (Operand.tmp 25) (Operand.tmp 26), type := 0, pos := "list.go:25", after := #[{ on := 0, ground := Ground.data }, { on := 1, ground := Ground.data }, { on := 0, ground := Ground.phase }, { on := 1, ground := Ground.phase }, { on := 2, ground := Ground.phase }, { on := 3, ground := Ground.phase }, { on := 4, ground := Ground.phase }, { on := 5, ground := Ground.phase }, { on := 6, ground := Ground.phase }, { on := 7, ground := Ground.phase }, { on := 8, ground := Ground.phase }], guard := none }) (v := ?vcd9) rfl (by kernel_rfl) (by kernel_rfl) (by kernel_rfl) (fun _ _ _ h => h) (Or.inl ⟨by rfl, ?ycd9⟩) hS ?rcd9
        case ycd9 => (intro w hS; go_simp; try with_reducible rfl)
        go_simp
        refine wpAnyH_ready (rs := [10]) (by kernel_rfl) (by simp) ?_
        refine AllReadyH.cons (o := { dst := none, op := Op.store 24 (Operand.tmp 34) (Operand.tmp 33), type := 0, pos := "list.go:25", after := #[{ on := 9, ground := Ground.data }, { on := 8, ground := Ground.data }, { on := 8, ground := Ground.chain }, { on := 0, ground := Ground.phase }, { on := 1, ground := Ground.phase }, { on := 2, ground := Ground.phase }, { on := 3, ground := Ground.phase }, { on := 4, ground := Ground.phase }, { on := 5, ground := Ground.phase }, { on := 6, ground := Ground.phase }, { on := 7, ground := Ground.phase }, { on := 8, ground := Ground.phase }], guard := none }) rfl (fun K hK => ?_) AllReadyH.nil
        have zc := (hz k hlt).1
        have zf := (hz k hlt).2
        go_simp
        have hS2 := hS.store (k := k) (v := .string R)
        clear hS zc zf
        refine hK.out _ _ hS2 (fun hS => ?_)
        clear hK K hS2
        refine wpAnyH_done (by kernel_rfl) ?_ _
        have hfin := (hz.set k R hlt).ext (G := whk l (k + 1)) (fun j hj => by
          unfold whk
          by_cases e : j = k
          · subst e; rw [if_pos rfl, if_pos (by omega), HRR.out]
          · rw [if_neg e]
            by_cases e2 : j < k
            · rw [if_pos e2, if_pos (by omega)]
            · rw [if_neg e2, if_neg (by omega)])
        have HFin := Lib.hid (And.intro hfin (And.intro hS.wlt hS.b))
        clear hfin hz hS
        go_wp2
        go_roundw
        case rel => exact ⟨k + 1, by omega, by go_num, HFin⟩
        case measure => (simp [intOf]; omega)
      · obtain rfl : k = l.length := by omega
        go_wp2
        go_ret3
        exact .inr ⟨HR.out.2.2.2.2.2.2, wb, hsz, hI.out.2.1, rfl, hI.out.1.ext (fun j hj => by unfold whk; rw [if_pos hj]), hI.out.2.2⟩
end Go.Proofs.YteccbedmpjeamaaGreatDoor
