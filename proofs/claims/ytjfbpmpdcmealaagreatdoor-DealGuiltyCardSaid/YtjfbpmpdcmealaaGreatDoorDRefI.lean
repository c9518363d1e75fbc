/-
  The reference's Deal for arguments that are not permitted.
  The reference's Same: of dealings that hold the same.
  Deal and the reference's Deal, at any numbers and keys: one answer.
-/
import Derived.Test.YtjfbpmpdcmealaaGreatDoorDRefG
namespace Go.Proofs.YtjfbpmpdcmealaaGreatDoor.D7
open Go.RowKit GM SH G4 E6 D7P
set_option maxRecDepth 100000 in
set_option maxHeartbeats 4000000 in
theorem refDeal_n0 (w : World) (p q : Option Addr) (n c m e : Nat) (seed : ByteArray) (r : Bool) (h : m < 1) (A2 : Hid (∀ W, Below w.heap.size w W → Calls Tryz.prog 60 #[.slice q m e] W fun e w' => e = .returned (.bool r) ∧ Below W.heap.size W w')) :
    Calls Tryz.prog 27 #[.slice p n c, .slice q m e, .string seed] w (NoQ w) := by
  obtain ⟨W, hW⟩ : ∃ W, w.alloc (.cells #[.slice none 0 0, .int .i64 0, .slice none 0 0] 34) = W := ⟨_, rfl⟩
  have HB0 := Lib.hid (show Below w.heap.size w W by rw [← hW]; exact (Below.refl _ w).alloc (Nat.le_refl _) _)
  have HR0 := Lib.hid (show W.heap[w.heap.size]? = some (.cells #[.slice none 0 0, .int .i64 0, .slice none 0 0] 34 (0, 0)) by rw [← hW]; exact heap_alloc_new _ _)
  have d1 : decide ((m : Int) < 1) = true := decide_eq_true (by omega)
  go_enter Tryz.func27, Tryz.ntmps27
  go_upto_region 1 with fail
  clear hW
  go_wp2_with fail
  refine (A2.out _ HB0.out).mono ?_
  rintro e w2 ⟨rfl, b2⟩
  have HB2 := Lib.hid (HB0.out.trans (b2.mono HB0.out.size))
  have HR2 := Lib.hid ((b2.block _ (Array.getElem?_eq_some_iff.1 HR0.out).1).trans HR0.out)
  clear b2 HB0 HR0
  have hz := HR2.out
  have h0 := infoD (.slice none 0 0) (.int .i64 0) (.slice none 0 0)
  go_wp2_with (refine wpList_store_row rfl 34 (.tmp 6) (.tmp 40) rfl w.heap.size #[.slice none 0 0, .int .i64 0, .slice none 0 0] rfl rfl 34 #[.slice none 0 0, .int .i64 0, .slice none 0 0] hz h0.out (three_size _ _ _ _ _ _) (by simp [Value.oneCell']) ?_)
  refine bodyPost_ret (results_row_tmp rfl _ _ w.heap.size _ #[.slice none 0 0, .int .i64 0, .slice none 0 0] _ _ rfl (setRow_heap _ _ _ _ _ _ hz) Tryz.underlying34 rfl h0.out) rfl ?_
  exact ⟨rfl, Below.setRow' HB2.out (Nat.le_refl _) _⟩
set_option maxRecDepth 100000 in
set_option maxHeartbeats 4000000 in
theorem refDeal_n60 (w : World) (p q : Option Addr) (n c m e : Nat) (seed : ByteArray) (r : Bool) (h : 1 ≤ m) (h2 : 60 < m) (A2 : Hid (∀ W, Below w.heap.size w W → Calls Tryz.prog 60 #[.slice q m e] W fun e w' => e = .returned (.bool r) ∧ Below W.heap.size W w')) :
    Calls Tryz.prog 27 #[.slice p n c, .slice q m e, .string seed] w (NoQ w) := by
  obtain ⟨W, hW⟩ : ∃ W, w.alloc (.cells #[.slice none 0 0, .int .i64 0, .slice none 0 0] 34) = W := ⟨_, rfl⟩
  have HB0 := Lib.hid (show Below w.heap.size w W by rw [← hW]; exact (Below.refl _ w).alloc (Nat.le_refl _) _)
  have HR0 := Lib.hid (show W.heap[w.heap.size]? = some (.cells #[.slice none 0 0, .int .i64 0, .slice none 0 0] 34 (0, 0)) by rw [← hW]; exact heap_alloc_new _ _)
  have d1 : decide ((m : Int) < 1) = false := decide_eq_false (by omega)
  have d2 : decide (60 < (m : Int)) = true := decide_eq_true (by omega)
  go_enter Tryz.func27, Tryz.ntmps27
  go_upto_region 1 with fail
  clear hW
  go_wp2_with fail
  refine (A2.out _ HB0.out).mono ?_
  rintro e w2 ⟨rfl, b2⟩
  have HB2 := Lib.hid (HB0.out.trans (b2.mono HB0.out.size))
  have HR2 := Lib.hid ((b2.block _ (Array.getElem?_eq_some_iff.1 HR0.out).1).trans HR0.out)
  clear b2 HB0 HR0
  have hz := HR2.out
  have h0 := infoD (.slice none 0 0) (.int .i64 0) (.slice none 0 0)
  go_wp2_with (refine wpList_store_row rfl 34 (.tmp 6) (.tmp 40) rfl w.heap.size #[.slice none 0 0, .int .i64 0, .slice none 0 0] rfl rfl 34 #[.slice none 0 0, .int .i64 0, .slice none 0 0] hz h0.out (three_size _ _ _ _ _ _) (by simp [Value.oneCell']) ?_)
  refine bodyPost_ret (results_row_tmp rfl _ _ w.heap.size _ #[.slice none 0 0, .int .i64 0, .slice none 0 0] _ _ rfl (setRow_heap _ _ _ _ _ _ hz) Tryz.underlying34 rfl h0.out) rfl ?_
  exact ⟨rfl, Below.setRow' HB2.out (Nat.le_refl _) _⟩
set_option maxRecDepth 100000 in
set_option maxHeartbeats 4000000 in
theorem refDeal_n1 (w : World) (p q : Option Addr) (n c m e : Nat) (seed : ByteArray) (r : Bool) (h : 1 ≤ m) (h2 : m ≤ 60) (h3 : n < 1) (A2 : Hid (∀ W, Below w.heap.size w W → Calls Tryz.prog 60 #[.slice q m e] W fun e w' => e = .returned (.bool r) ∧ Below W.heap.size W w')) :
    Calls Tryz.prog 27 #[.slice p n c, .slice q m e, .string seed] w (NoQ w) := by
  obtain ⟨W, hW⟩ : ∃ W, w.alloc (.cells #[.slice none 0 0, .int .i64 0, .slice none 0 0] 34) = W := ⟨_, rfl⟩
  have HB0 := Lib.hid (show Below w.heap.size w W by rw [← hW]; exact (Below.refl _ w).alloc (Nat.le_refl _) _)
  have HR0 := Lib.hid (show W.heap[w.heap.size]? = some (.cells #[.slice none 0 0, .int .i64 0, .slice none 0 0] 34 (0, 0)) by rw [← hW]; exact heap_alloc_new _ _)
  have d1 : decide ((m : Int) < 1) = false := decide_eq_false (by omega)
  have d2 : decide (60 < (m : Int)) = false := decide_eq_false (by omega)
  have d3 : decide ((n : Int) < 1) = true := decide_eq_true (by omega)
  go_enter Tryz.func27, Tryz.ntmps27
  go_upto_region 1 with fail
  clear hW
  go_wp2_with fail
  refine (A2.out _ HB0.out).mono ?_
  rintro e w2 ⟨rfl, b2⟩
  have HB2 := Lib.hid (HB0.out.trans (b2.mono HB0.out.size))
  have HR2 := Lib.hid ((b2.block _ (Array.getElem?_eq_some_iff.1 HR0.out).1).trans HR0.out)
  clear b2 HB0 HR0
  have hz := HR2.out
  have h0 := infoD (.slice none 0 0) (.int .i64 0) (.slice none 0 0)
  go_wp2_with (refine wpList_store_row rfl 34 (.tmp 6) (.tmp 40) rfl w.heap.size #[.slice none 0 0, .int .i64 0, .slice none 0 0] rfl rfl 34 #[.slice none 0 0, .int .i64 0, .slice none 0 0] hz h0.out (three_size _ _ _ _ _ _) (by simp [Value.oneCell']) ?_)
  refine bodyPost_ret (results_row_tmp rfl _ _ w.heap.size _ #[.slice none 0 0, .int .i64 0, .slice none 0 0] _ _ rfl (setRow_heap _ _ _ _ _ _ hz) Tryz.underlying34 rfl h0.out) rfl ?_
  exact ⟨rfl, Below.setRow' HB2.out (Nat.le_refl _) _⟩
set_option maxRecDepth 100000 in
set_option maxHeartbeats 4000000 in
theorem refDeal_nM (w : World) (p q : Option Addr) (n c m e : Nat) (seed : ByteArray) (r : Bool) (h : 1 ≤ m) (h2 : m ≤ 60) (h3 : 1 ≤ n) (h4 : m < n) (A2 : Hid (∀ W, Below w.heap.size w W → Calls Tryz.prog 60 #[.slice q m e] W fun e w' => e = .returned (.bool r) ∧ Below W.heap.size W w')) :
    Calls Tryz.prog 27 #[.slice p n c, .slice q m e, .string seed] w (NoQ w) := by
  obtain ⟨W, hW⟩ : ∃ W, w.alloc (.cells #[.slice none 0 0, .int .i64 0, .slice none 0 0] 34) = W := ⟨_, rfl⟩
  have HB0 := Lib.hid (show Below w.heap.size w W by rw [← hW]; exact (Below.refl _ w).alloc (Nat.le_refl _) _)
  have HR0 := Lib.hid (show W.heap[w.heap.size]? = some (.cells #[.slice none 0 0, .int .i64 0, .slice none 0 0] 34 (0, 0)) by rw [← hW]; exact heap_alloc_new _ _)
  have d1 : decide ((m : Int) < 1) = false := decide_eq_false (by omega)
  have d2 : decide (60 < (m : Int)) = false := decide_eq_false (by omega)
  have d3 : decide ((n : Int) < 1) = false := decide_eq_false (by omega)
  have d4 : decide ((m : Int) < (n : Int)) = true := decide_eq_true (by omega)
  have d5 : decide (m < n) = true := decide_eq_true h4
  go_enter Tryz.func27, Tryz.ntmps27
  go_upto_region 1 with fail
  clear hW
  go_wp2_with fail
  refine (A2.out _ HB0.out).mono ?_
  rintro e w2 ⟨rfl, b2⟩
  have HB2 := Lib.hid (HB0.out.trans (b2.mono HB0.out.size))
  have HR2 := Lib.hid ((b2.block _ (Array.getElem?_eq_some_iff.1 HR0.out).1).trans HR0.out)
  clear b2 HB0 HR0
  have hz := HR2.out
  have h0 := infoD (.slice none 0 0) (.int .i64 0) (.slice none 0 0)
  go_wp2_with (refine wpList_store_row rfl 34 (.tmp 6) (.tmp 40) rfl w.heap.size #[.slice none 0 0, .int .i64 0, .slice none 0 0] rfl rfl 34 #[.slice none 0 0, .int .i64 0, .slice none 0 0] hz h0.out (three_size _ _ _ _ _ _) (by simp [Value.oneCell']) ?_)
  refine bodyPost_ret (results_row_tmp rfl _ _ w.heap.size _ #[.slice none 0 0, .int .i64 0, .slice none 0 0] _ _ rfl (setRow_heap _ _ _ _ _ _ hz) Tryz.underlying34 rfl h0.out) rfl ?_
  exact ⟨rfl, Below.setRow' HB2.out (Nat.le_refl _) _⟩
set_option maxRecDepth 100000 in
set_option maxHeartbeats 4000000 in
theorem refDeal_nK (w : World) (p q : Option Addr) (n c m e : Nat) (seed : ByteArray) (r : Bool) (hr : r = false) (h : 1 ≤ m) (h2 : m ≤ 60) (h3 : 1 ≤ n) (h4 : n ≤ m) (A2 : Hid (∀ W, Below w.heap.size w W → Calls Tryz.prog 60 #[.slice q m e] W fun e w' => e = .returned (.bool r) ∧ Below W.heap.size W w')) :
    Calls Tryz.prog 27 #[.slice p n c, .slice q m e, .string seed] w (NoQ w) := by
  subst hr
  obtain ⟨W, hW⟩ : ∃ W, w.alloc (.cells #[.slice none 0 0, .int .i64 0, .slice none 0 0] 34) = W := ⟨_, rfl⟩
  have HB0 := Lib.hid (show Below w.heap.size w W by rw [← hW]; exact (Below.refl _ w).alloc (Nat.le_refl _) _)
  have HR0 := Lib.hid (show W.heap[w.heap.size]? = some (.cells #[.slice none 0 0, .int .i64 0, .slice none 0 0] 34 (0, 0)) by rw [← hW]; exact heap_alloc_new _ _)
  have d1 : decide ((m : Int) < 1) = false := decide_eq_false (by omega)
  have d2 : decide (60 < (m : Int)) = false := decide_eq_false (by omega)
  have d3 : decide ((n : Int) < 1) = false := decide_eq_false (by omega)
  have d4 : decide ((m : Int) < (n : Int)) = false := decide_eq_false (by omega)
  have d5 : decide (m < n) = false := decide_eq_false (by omega)
  go_enter Tryz.func27, Tryz.ntmps27
  go_upto_region 1 with fail
  clear hW
  go_wp2_with fail
  refine (A2.out _ HB0.out).mono ?_
  rintro e w2 ⟨rfl, b2⟩
  have HB2 := Lib.hid (HB0.out.trans (b2.mono HB0.out.size))
  have HR2 := Lib.hid ((b2.block _ (Array.getElem?_eq_some_iff.1 HR0.out).1).trans HR0.out)
  clear b2 HB0 HR0
  have hz := HR2.out
  have h0 := infoD (.slice none 0 0) (.int .i64 0) (.slice none 0 0)
  go_wp2_with (refine wpList_store_row rfl 34 (.tmp 6) (.tmp 40) rfl w.heap.size #[.slice none 0 0, .int .i64 0, .slice none 0 0] rfl rfl 34 #[.slice none 0 0, .int .i64 0, .slice none 0 0] hz h0.out (three_size _ _ _ _ _ _) (by simp [Value.oneCell']) ?_)
  refine bodyPost_ret (results_row_tmp rfl _ _ w.heap.size _ #[.slice none 0 0, .int .i64 0, .slice none 0 0] _ _ rfl (setRow_heap _ _ _ _ _ _ hz) Tryz.underlying34 rfl h0.out) rfl ?_
  exact ⟨rfl, Below.setRow' HB2.out (Nat.le_refl _) _⟩
set_option maxRecDepth 100000 in
set_option maxHeartbeats 4000000 in
theorem refDeal_nQ (w : World) (p q : Option Addr) (n c m e : Nat) (seed : ByteArray) (r : Bool) (hr : r = true) (coefs : List Int) (hn : coefs.length = n) (hrc : Hid (∀ x ∈ coefs, i64 x)) (hC : Hid (∀ (j : Nat) (x : Int), coefs[j]? = some x → ∃ b o, p = some ⟨b, o, none⟩ ∧ w.cell? ⟨b, o + j, none⟩ = some (.int .i64 x))) (hq : Hid (coefs.all inQ = false)) (h : 1 ≤ m) (h2 : m ≤ 60) (h3 : 1 ≤ n) (h4 : n ≤ m) (A2 : Hid (∀ W, Below w.heap.size w W → Calls Tryz.prog 60 #[.slice q m e] W fun e w' => e = .returned (.bool r) ∧ Below W.heap.size W w')) :
    Calls Tryz.prog 27 #[.slice p n c, .slice q m e, .string seed] w (NoQ w) := by
  subst hr
  have HL := Lib.hid hn; clear hn
  obtain ⟨W, hW⟩ : ∃ W, w.alloc (.cells #[.slice none 0 0, .int .i64 0, .slice none 0 0] 34) = W := ⟨_, rfl⟩
  have HB0 := Lib.hid (show Below w.heap.size w W by rw [← hW]; exact (Below.refl _ w).alloc (Nat.le_refl _) _)
  have HR0 := Lib.hid (show W.heap[w.heap.size]? = some (.cells #[.slice none 0 0, .int .i64 0, .slice none 0 0] 34 (0, 0)) by rw [← hW]; exact heap_alloc_new _ _)
  have d1 : decide ((m : Int) < 1) = false := decide_eq_false (by omega)
  have d2 : decide (60 < (m : Int)) = false := decide_eq_false (by omega)
  have d3 : decide ((n : Int) < 1) = false := decide_eq_false (by omega)
  have d4 : decide ((m : Int) < (n : Int)) = false := decide_eq_false (by omega)
  have d5 : decide (m < n) = false := decide_eq_false (by omega)
  go_enter Tryz.func27, Tryz.ntmps27
  go_upto_region 1 with fail
  clear hW
  go_wp2_with fail
  refine (A2.out _ HB0.out).mono ?_
  rintro e w2 ⟨rfl, b2⟩
  have HB2 := Lib.hid (HB0.out.trans (b2.mono HB0.out.size))
  have HR2 := Lib.hid ((b2.block _ (Array.getElem?_eq_some_iff.1 HR0.out).1).trans HR0.out)
  clear b2 HB0 HR0
  go_wp2_with fail
  clear d1 d2 d3 d4 d5
  go_loopw [9] (fun i wr => ∃ k : Nat, k ≤ n ∧ i = .int .i64 (k : Int) ∧ Hid ((coefs.take k).all inQ = true) ∧ w2 = wr) (fun i _ => n - (match i with | .int _ i => i.toNat | _ => 0))
  case atStart => exact ⟨0, Nat.zero_le _, rfl, Lib.hid (by simp), rfl⟩
  case round =>
    obtain ⟨k, hk, rfl, ht, rfl⟩ := hrel
    by_cases hlt : k < n
    · obtain ⟨x, hx⟩ : ∃ x, coefs[k]? = some x := ⟨coefs[k]'(by rw [HL.out]; exact hlt), List.getElem?_eq_getElem _⟩
      obtain ⟨b, o, hp, hcx⟩ := hC.out k x hx
      subst hp
      have hcell := (HB2.out.cell (p := ⟨b, o + k, none⟩) (World.block_lt_of_cell? _ _ hcx)).trans hcx
      have hix := hrc.out x (List.mem_of_getElem? hx)
      have hnx := Lib.hid fun (h : inQ x = true) => all_yes inQ coefs k x hx ht.out h
      clear hx hcx
      by_cases q0 : x < 0
      · have d5 : decide (x < 0) = true := decide_eq_true q0
        have hz := HR2.out
        have h0 := infoD (.slice none 0 0) (.int .i64 0) (.slice none 0 0)
        go_wp2_with (refine wpList_store_row rfl 34 (.tmp 6) (.tmp 59) rfl w.heap.size #[.slice none 0 0, .int .i64 0, .slice none 0 0] rfl rfl 34 #[.slice none 0 0, .int .i64 0, .slice none 0 0] hz h0.out (three_size _ _ _ _ _ _) (by simp [Value.oneCell']) ?_)
        refine bodyPost_ret (results_row_tmp rfl _ _ w.heap.size _ #[.slice none 0 0, .int .i64 0, .slice none 0 0] _ _ rfl (setRow_heap _ _ _ _ _ _ hz) Tryz.underlying34 rfl h0.out) rfl ?_
        exact ⟨rfl, Below.setRow' HB2.out (Nat.le_refl _) _⟩
      · have d5 : decide (x < 0) = false := decide_eq_false q0
        by_cases q1 : 1152921504606845789 ≤ x
        · have d6 : decide (1152921504606845789 ≤ x) = true := decide_eq_true q1
          have hz := HR2.out
          have h0 := infoD (.slice none 0 0) (.int .i64 0) (.slice none 0 0)
          go_wp2_with (refine wpList_store_row rfl 34 (.tmp 6) (.tmp 59) rfl w.heap.size #[.slice none 0 0, .int .i64 0, .slice none 0 0] rfl rfl 34 #[.slice none 0 0, .int .i64 0, .slice none 0 0] hz h0.out (three_size _ _ _ _ _ _) (by simp [Value.oneCell']) ?_)
          refine bodyPost_ret (results_row_tmp rfl _ _ w.heap.size _ #[.slice none 0 0, .int .i64 0, .slice none 0 0] _ _ rfl (setRow_heap _ _ _ _ _ _ hz) Tryz.underlying34 rfl h0.out) rfl ?_
          exact ⟨rfl, Below.setRow' HB2.out (Nat.le_refl _) _⟩
        · have d6 : decide (1152921504606845789 ≤ x) = false := decide_eq_false q1
          have ht2 := Lib.hid (hnx.out (inQ_t ⟨by omega, by omega⟩))
          clear hnx
          go_wp2
          exact ⟨⟨k + 1, by omega, by go_num, ht2, trivial⟩, by simp; omega⟩
    · exfalso
      obtain rfl : k = n := by omega
      have := ht.out
      rw [List.take_of_length_le (by rw [HL.out]; exact Nat.le_refl _), hq.out] at this
      cases this
theorem refDeal_no (w : World) (cv kv : Value) (coefs keys : List Int) (seed : ByteArray) (hC : SL w cv coefs) (hK : SL w kv keys) (hrc : ∀ x ∈ coefs, i64 x) (hrk : ∀ x ∈ keys, i64 x) (hlk : keys.length ≤ 1000000000) (h : gd coefs keys = false) :
    Calls Tryz.prog 27 #[cv, kv, .string seed] w (NoQ w) := by
  have hK' := hK
  obtain ⟨p, c, rfl, hc⟩ := hC.form
  obtain ⟨q, e, rfl, hk⟩ := hK.form
  have A2 := Lib.hid fun W (b : Below w.heap.size w W) => refMembers_any W _ keys (hK'.below b) hrk hlk
  by_cases h0 : keys.length < 1
  · exact refDeal_n0 w p q _ c _ e seed _ h0 A2
  · by_cases h60 : 60 < keys.length
    · exact refDeal_n60 w p q _ c _ e seed _ (by omega) h60 A2
    · by_cases h1 : coefs.length < 1
      · exact refDeal_n1 w p q _ c _ e seed _ (by omega) (by omega) h1 A2
      · by_cases hM : keys.length < coefs.length
        · exact refDeal_nM w p q _ c _ e seed _ (by omega) (by omega) (by omega) hM A2
        · cases hm : keys.all mem with
          | false => exact refDeal_nK w p q _ c _ e seed _ hm (by omega) (by omega) (by omega) (by omega) A2
          | true =>
            refine refDeal_nQ w p q _ c _ e seed _ hm coefs rfl (Lib.hid hrc) (Lib.hid hc) (Lib.hid ?_) (by omega) (by omega) (by omega) (by omega) A2
            unfold gd at h
            rw [decide_eq_false h60, decide_eq_false h1, decide_eq_false hM, hm] at h
            simpa using h
end Go.Proofs.YtjfbpmpdcmealaaGreatDoor.D7
namespace Go.Proofs.YtjfbpmpdcmealaaGreatDoor.D7
open Go.RowKit GM SH G4 E6 D7P
set_option maxRecDepth 100000 in
set_option maxHeartbeats 8000000 in
theorem refSame_any (w : World) (pt : Int) (p p' q q' : Option Addr) (n c c' m e e' : Nat) (C : List Int) (B : List ByteArray) (h1 : SL w (.slice p n c) C) (h2 : SL w (.slice p' n c') C) (h3 : ZL w (.slice q m e) B) (h4 : ZL w (.slice q' m e') B) (hn9 : n ≤ 1000000000) (hm9 : m ≤ 1000000000) :
    Calls Tryz.prog 22 #[.agg #[.slice p n c, .int .i64 pt, .slice q m e], .agg #[.slice p' n c', .int .i64 pt, .slice q' m e']] w fun e w' => e = .returned (.bool true) ∧ Below w.heap.size w w' := by
  obtain ⟨_, _, x1, g1⟩ := h1.form
  injection x1 with y1 z1 u1
  subst y1 u1
  obtain ⟨_, _, x2, g2⟩ := h2.form
  injection x2 with y2 z2 u2
  subst y2 u2
  obtain ⟨_, _, x3, g3⟩ := h3.form
  injection x3 with y3 z3 u3
  subst y3 u3
  obtain ⟨_, _, x4, g4⟩ := h4.form
  injection x4 with y4 z4 u4
  subst y4 u4
  have HG := Lib.hid (And.intro z1 (And.intro z3 (And.intro g1 (And.intro g2 (And.intro g3 g4))))); clear z1 z2 z3 z4 g1 g2 g3 g4 h1 h2 h3 h4
  obtain ⟨W, hW⟩ : ∃ W, (w.alloc (.cells #[.slice p n c, .int .i64 pt, .slice q m e] 34)).alloc (.cells #[.slice p' n c', .int .i64 pt, .slice q' m e'] 34) = W := ⟨_, rfl⟩
  have K0 : CK w [(⟨w.heap.size, 0, none⟩, .slice p n c), (⟨w.heap.size, 1, none⟩, .int .i64 pt), (⟨w.heap.size, 2, none⟩, .slice q m e), (⟨w.heap.size + 1, 0, none⟩, .slice p' n c'), (⟨w.heap.size + 1, 1, none⟩, .int .i64 pt), (⟨w.heap.size + 1, 2, none⟩, .slice q' m e')] [] W := by
    have := ((CK.start w).cells #[.slice p n c, .int .i64 pt, .slice q m e] 34 _ rfl).cells #[.slice p' n c', .int .i64 pt, .slice q' m e'] 34 _ rfl
    rw [hW, World.size_alloc] at this
    exact this.sub (by simp) (by simp)
  have HK := Lib.hid K0; clear K0
  have c0 := HK.out.get ⟨w.heap.size, 0, none⟩ (.slice p n c) (by simp)
  have c1 := HK.out.get ⟨w.heap.size, 1, none⟩ (.int .i64 pt) (by simp)
  have c2 := HK.out.get ⟨w.heap.size, 2, none⟩ (.slice q m e) (by simp)
  have e0 := HK.out.get ⟨w.heap.size + 1, 0, none⟩ (.slice p' n c') (by simp)
  have e1 := HK.out.get ⟨w.heap.size + 1, 1, none⟩ (.int .i64 pt) (by simp)
  have e2 := HK.out.get ⟨w.heap.size + 1, 2, none⟩ (.slice q' m e') (by simp)
  go_enter Tryz.func22, Tryz.ntmps22
  go_upto_region 1 with fail
  clear hW
  go_wp2_with fail
  clear c0 c1 c2 e0 e1 e2
  go_loopw [5] (fun i wr => ∃ k : Nat, k ≤ n ∧ i = .int .i64 (k : Int) ∧ Hid (CK w [(⟨w.heap.size, 0, none⟩, .slice p n c), (⟨w.heap.size, 1, none⟩, .int .i64 pt), (⟨w.heap.size, 2, none⟩, .slice q m e), (⟨w.heap.size + 1, 0, none⟩, .slice p' n c'), (⟨w.heap.size + 1, 1, none⟩, .int .i64 pt), (⟨w.heap.size + 1, 2, none⟩, .slice q' m e')] [] wr)) (fun i _ => n - (match i with | .int _ i => i.toNat | _ => 0))
  case atStart => exact ⟨0, Nat.zero_le _, rfl, HK⟩
  case round =>
    clear HK
    obtain ⟨k, hk, rfl, HK⟩ := hrel
    have c0 := HK.out.get ⟨w.heap.size, 0, none⟩ (.slice p n c) (by simp)
    have e0 := HK.out.get ⟨w.heap.size + 1, 0, none⟩ (.slice p' n c') (by simp)
    by_cases hlt : k < n
    · obtain ⟨x, hx⟩ : ∃ x, C[k]? = some x := ⟨C[k]'(by rw [← HG.out.1]; exact hlt), List.getElem?_eq_getElem _⟩
      obtain ⟨b1, o1, hp1, v1⟩ := HG.out.2.2.1 k x hx
      obtain ⟨b2, o2, hp2, v2⟩ := HG.out.2.2.2.1 k x hx
      subst hp1 hp2
      replace v1 := (HK.out.b.cell (p := ⟨b1, o1 + k, none⟩) (World.block_lt_of_cell? _ _ v1)).trans v1
      replace v2 := (HK.out.b.cell (p := ⟨b2, o2 + k, none⟩) (World.block_lt_of_cell? _ _ v2)).trans v2
      clear hx
      go_wp2_with fail
      go_region
      all_goals
        go_wp2
        exact ⟨⟨k + 1, by omega, by go_num, Lib.hid HK.out.drew⟩, by simp; omega⟩
    · obtain rfl : k = n := by omega
      clear hlt
      go_wp2_with fail
      clear c0 e0
      go_loopw [6] (fun i wr => ∃ j : Nat, j ≤ m ∧ i = .int .i64 (j : Int) ∧ Hid (CK w [(⟨w.heap.size, 0, none⟩, .slice p k c), (⟨w.heap.size, 1, none⟩, .int .i64 pt), (⟨w.heap.size, 2, none⟩, .slice q m e), (⟨w.heap.size + 1, 0, none⟩, .slice p' k c'), (⟨w.heap.size + 1, 1, none⟩, .int .i64 pt), (⟨w.heap.size + 1, 2, none⟩, .slice q' m e')] [] wr)) (fun i _ => m - (match i with | .int _ i => i.toNat | _ => 0))
      case atStart => exact ⟨0, Nat.zero_le _, rfl, HK⟩
      case round =>
        clear HK
        obtain ⟨j, hj, rfl, HK⟩ := hrel
        have c2 := HK.out.get ⟨w.heap.size, 2, none⟩ (.slice q m e) (by simp)
        have e2 := HK.out.get ⟨w.heap.size + 1, 2, none⟩ (.slice q' m e') (by simp)
        by_cases hlt : j < m
        · obtain ⟨x, hx⟩ : ∃ x, B[j]? = some x := ⟨B[j]'(by rw [← HG.out.2.1]; exact hlt), List.getElem?_eq_getElem _⟩
          obtain ⟨b1, o1, hp1, v1⟩ := HG.out.2.2.2.2.1 j x hx
          obtain ⟨b2, o2, hp2, v2⟩ := HG.out.2.2.2.2.2 j x hx
          subst hp1 hp2
          replace v1 := (HK.out.b.cell (p := ⟨b1, o1 + j, none⟩) (World.block_lt_of_cell? _ _ v1)).trans v1
          replace v2 := (HK.out.b.cell (p := ⟨b2, o2 + j, none⟩) (World.block_lt_of_cell? _ _ v2)).trans v2
          clear hx
          go_wp2_with fail
          go_region
          all_goals
            go_wp2
            exact ⟨⟨j + 1, by omega, by go_num, Lib.hid HK.out.drew⟩, by simp; omega⟩
        · obtain rfl : j = m := by omega
          go_wp2
          go_ret
          exact ⟨rfl, HK.out.b⟩
end Go.Proofs.YtjfbpmpdcmealaaGreatDoor.D7
namespace Go.Proofs.YtjfbpmpdcmealaaGreatDoor.D7
open Go.RowKit GM SH G4 E6 D7P
/-- what is dealt -/
def dC (c K : List Int) : List Int := if gd c K then c.map (pp 4) else []
def dP (c K : List Int) (s : ByteArray) : Int := if gd c K then pp 4 (dk s) else 0
def dBx (c K : List Int) (s : ByteArray) : List ByteArray := if gd c K then dbs c K (dk s) K.length else []
/-- the answer's form -/
def PairQ (w : World) (r : Bool) (C : List Int) (pt : Int) (B : List ByteArray) (e : Ending) (w' : World) : Prop :=
  ∃ p c q m, e = .returned (.tuple #[.agg #[.slice p C.length c, .int .i64 pt, .slice q B.length m], .bool r]) ∧ Below w.heap.size w w' ∧ SL w' (.slice p C.length c) C ∧ ZL w' (.slice q B.length m) B
theorem pair_no {w w' : World} {e : Ending} (h : NoQ w e w') : PairQ w false [] 0 [] e w' := ⟨none, 0, none, 0, h.1, h.2, VL.nil _ _ _, VL.nil _ _ _⟩
theorem pair_yes {w w' : World} {e : Ending} {C : List Int} {pt : Int} {B : List ByteArray} (h : DealtQ w C pt B e w') : PairQ w true C pt B e w' := by
  obtain ⟨p, c, q, m, he, b, h1, h2, _⟩ := dealt_forms h
  exact ⟨p, c, q, m, he, b, h1, h2⟩
theorem Deal_pair (w : World) (cv kv : Value) (c K : List Int) (s : ByteArray) (hC : SL w cv c) (hK : SL w kv K) (hrc : ∀ x ∈ c, i64 x) (hrk : ∀ x ∈ K, i64 x) (hlc : c.length ≤ 1000000000) (hlk : K.length ≤ 1000000000) (hs : s.size ≤ 140737488355300) (hT : TS w) :
    Calls Tryz.prog 11 #[cv, kv, .string s] w (PairQ w (gd c K) (dC c K) (dP c K s) (dBx c K s)) := by
  cases h : gd c K with
  | false =>
    have e1 : dC c K = [] := if_neg (by rw [h]; decide)
    have e2 : dP c K s = 0 := if_neg (by rw [h]; decide)
    have e3 : dBx c K s = [] := if_neg (by rw [h]; decide)
    rw [e1, e2, e3]
    exact (Deal_no w cv kv c K s hC hK hrc hrk hlc hlk h).mono fun e w' hh => pair_no hh
  | true =>
    obtain ⟨g1, g2, g3, g4, g5⟩ := gd_parts h
    have e1 : dC c K = c.map (pp 4) := if_pos h
    have e2 : dP c K s = pp 4 (dk s) := if_pos h
    have e3 : dBx c K s = dbs c K (dk s) K.length := if_pos h
    rw [e1, e2, e3]
    exact (Deal_yes w cv kv c K s hC hK hrc hrk hs g1 g2 g3 g4 g5 hT).mono fun e w' hh => pair_yes hh
theorem refDeal_pair (w : World) (cv kv : Value) (c K : List Int) (s : ByteArray) (hC : SL w cv c) (hK : SL w kv K) (hrc : ∀ x ∈ c, i64 x) (hrk : ∀ x ∈ K, i64 x) (hlk : K.length ≤ 1000000000) (hs : s.size ≤ 140737488355300) :
    Calls Tryz.prog 27 #[cv, kv, .string s] w (PairQ w (gd c K) (dC c K) (dP c K s) (dBx c K s)) := by
  cases h : gd c K with
  | false =>
    have e1 : dC c K = [] := if_neg (by rw [h]; decide)
    have e2 : dP c K s = 0 := if_neg (by rw [h]; decide)
    have e3 : dBx c K s = [] := if_neg (by rw [h]; decide)
    rw [e1, e2, e3]
    exact (refDeal_no w cv kv c K s hC hK hrc hrk hlk h).mono fun e w' hh => pair_no hh
  | true =>
    obtain ⟨g1, g2, g3, g4, g5⟩ := gd_parts h
    have e1 : dC c K = c.map (pp 4) := if_pos h
    have e2 : dP c K s = pp 4 (dk s) := if_pos h
    have e3 : dBx c K s = dbs c K (dk s) K.length := if_pos h
    rw [e1, e2, e3]
    exact (refDeal_yes w cv kv c K s hC hK hrc hrk hs g1 g2 g3 (fun x hx => inQ_iff.1 (List.all_eq_true.1 g4 x hx)) g5).mono fun e w' hh => pair_yes hh
end Go.Proofs.YtjfbpmpdcmealaaGreatDoor.D7
