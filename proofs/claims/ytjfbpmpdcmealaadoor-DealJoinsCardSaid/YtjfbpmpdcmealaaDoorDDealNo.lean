/-
  The walk of deal.Deal for arguments that are not permitted.
-/
import Derived.Test.YtjfbpmpdcmealaaDoorDDeal
namespace Go.Proofs.YtjfbpmpdcmealaaDoor.D7
open Go.RowKit GM SH G4 E6 D7P
/-- what Deal answers where it refuses -/
def NoQ (w : World) (e : Ending) (w' : World) : Prop := e = .returned (.tuple #[.agg #[.slice none 0 0, .int .i64 0, .slice none 0 0], .bool false]) ∧ Below w.heap.size w w'
set_option maxRecDepth 100000 in
set_option maxHeartbeats 4000000 in
theorem Deal_no60 (w : World) (p q : Option Addr) (n c m e : Nat) (seed : ByteArray) (h60 : 60 < m) :
    Calls Tryd.prog 8 #[.slice p n c, .slice q m e, .string seed] w (NoQ w) := by
  obtain ⟨W, hW⟩ : ∃ W, w.alloc (.cells #[.slice none 0 0, .int .i64 0, .slice none 0 0] 29) = W := ⟨_, rfl⟩
  have HB := Lib.hid (show Below w.heap.size w W by rw [← hW]; exact (Below.refl _ w).alloc (Nat.le_refl _) _)
  have HR := Lib.hid (show W.heap[w.heap.size]? = some (.cells #[.slice none 0 0, .int .i64 0, .slice none 0 0] 29 (0, 0)) by rw [← hW]; exact heap_alloc_new _ _)
  have d1 : decide (60 < (m : Int)) = true := decide_eq_true (by omega)
  go_enter Tryd.func8, Tryd.ntmps8
  go_upto_region 1 with fail
  clear hW
  have hz := HR.out
  have h0 := infoD (.slice none 0 0) (.int .i64 0) (.slice none 0 0)
  go_wp2_with (refine wpList_store_row rfl 29 (.tmp 6) (.tmp 39) rfl w.heap.size #[.slice none 0 0, .int .i64 0, .slice none 0 0] rfl rfl 29 #[.slice none 0 0, .int .i64 0, .slice none 0 0] hz h0.out (three_size _ _ _ _ _ _) (by simp [Value.oneCell']) ?_)
  refine bodyPost_ret (results_row_tmp rfl _ _ w.heap.size _ #[.slice none 0 0, .int .i64 0, .slice none 0 0] _ _ rfl (setRow_heap _ _ _ _ _ _ hz) Tryd.underlying29 rfl h0.out) rfl ?_
  exact ⟨rfl, Below.setRow' HB.out (Nat.le_refl _) _⟩
set_option maxRecDepth 100000 in
set_option maxHeartbeats 4000000 in
theorem Deal_no1 (w : World) (p q : Option Addr) (n c m e : Nat) (seed : ByteArray) (h60 : m ≤ 60) (h1 : n < 1) :
    Calls Tryd.prog 8 #[.slice p n c, .slice q m e, .string seed] w (NoQ w) := by
  obtain ⟨W, hW⟩ : ∃ W, w.alloc (.cells #[.slice none 0 0, .int .i64 0, .slice none 0 0] 29) = W := ⟨_, rfl⟩
  have HB := Lib.hid (show Below w.heap.size w W by rw [← hW]; exact (Below.refl _ w).alloc (Nat.le_refl _) _)
  have HR := Lib.hid (show W.heap[w.heap.size]? = some (.cells #[.slice none 0 0, .int .i64 0, .slice none 0 0] 29 (0, 0)) by rw [← hW]; exact heap_alloc_new _ _)
  have d1 : decide (60 < (m : Int)) = false := decide_eq_false (by omega)
  have d2 : decide ((n : Int) < 1) = true := decide_eq_true (by omega)
  go_enter Tryd.func8, Tryd.ntmps8
  go_upto_region 1 with fail
  clear hW
  have hz := HR.out
  have h0 := infoD (.slice none 0 0) (.int .i64 0) (.slice none 0 0)
  go_wp2_with (refine wpList_store_row rfl 29 (.tmp 6) (.tmp 39) rfl w.heap.size #[.slice none 0 0, .int .i64 0, .slice none 0 0] rfl rfl 29 #[.slice none 0 0, .int .i64 0, .slice none 0 0] hz h0.out (three_size _ _ _ _ _ _) (by simp [Value.oneCell']) ?_)
  refine bodyPost_ret (results_row_tmp rfl _ _ w.heap.size _ #[.slice none 0 0, .int .i64 0, .slice none 0 0] _ _ rfl (setRow_heap _ _ _ _ _ _ hz) Tryd.underlying29 rfl h0.out) rfl ?_
  exact ⟨rfl, Below.setRow' HB.out (Nat.le_refl _) _⟩
set_option maxRecDepth 100000 in
set_option maxHeartbeats 4000000 in
theorem Deal_noM (w : World) (p q : Option Addr) (n c m e : Nat) (seed : ByteArray) (h60 : m ≤ 60) (h1 : 1 ≤ n) (hnm : m < n) :
    Calls Tryd.prog 8 #[.slice p n c, .slice q m e, .string seed] w (NoQ w) := by
  obtain ⟨W, hW⟩ : ∃ W, w.alloc (.cells #[.slice none 0 0, .int .i64 0, .slice none 0 0] 29) = W := ⟨_, rfl⟩
  have HB := Lib.hid (show Below w.heap.size w W by rw [← hW]; exact (Below.refl _ w).alloc (Nat.le_refl _) _)
  have HR := Lib.hid (show W.heap[w.heap.size]? = some (.cells #[.slice none 0 0, .int .i64 0, .slice none 0 0] 29 (0, 0)) by rw [← hW]; exact heap_alloc_new _ _)
  have d1 : decide (60 < (m : Int)) = false := decide_eq_false (by omega)
  have d2 : decide ((n : Int) < 1) = false := decide_eq_false (by omega)
  have d3 : decide ((m : Int) < (n : Int)) = true := decide_eq_true (by omega)
  have d4 : decide (m < n) = true := decide_eq_true (by omega)
  go_enter Tryd.func8, Tryd.ntmps8
  go_upto_region 1 with fail
  clear hW
  have hz := HR.out
  have h0 := infoD (.slice none 0 0) (.int .i64 0) (.slice none 0 0)
  go_wp2_with (refine wpList_store_row rfl 29 (.tmp 6) (.tmp 39) rfl w.heap.size #[.slice none 0 0, .int .i64 0, .slice none 0 0] rfl rfl 29 #[.slice none 0 0, .int .i64 0, .slice none 0 0] hz h0.out (three_size _ _ _ _ _ _) (by simp [Value.oneCell']) ?_)
  refine bodyPost_ret (results_row_tmp rfl _ _ w.heap.size _ #[.slice none 0 0, .int .i64 0, .slice none 0 0] _ _ rfl (setRow_heap _ _ _ _ _ _ hz) Tryd.underlying29 rfl h0.out) rfl ?_
  exact ⟨rfl, Below.setRow' HB.out (Nat.le_refl _) _⟩
set_option maxRecDepth 100000 in
set_option maxHeartbeats 4000000 in
theorem Deal_noQ (w : World) (p q : Option Addr) (n c m e : Nat) (seed : ByteArray) (h60 : m ≤ 60) (h1 : 1 ≤ n) (hnm : n ≤ m) (A1 : Hid (∀ W, Below w.heap.size w W → Calls Tryd.prog 20 #[.slice p n c, .func (.func 21) #[] #[]] W fun e w' => e = .returned (.bool false) ∧ Below W.heap.size W w')) :
    Calls Tryd.prog 8 #[.slice p n c, .slice q m e, .string seed] w (NoQ w) := by
  obtain ⟨W, hW⟩ : ∃ W, w.alloc (.cells #[.slice none 0 0, .int .i64 0, .slice none 0 0] 29) = W := ⟨_, rfl⟩
  have HB := Lib.hid (show Below w.heap.size w W by rw [← hW]; exact (Below.refl _ w).alloc (Nat.le_refl _) _)
  have HR := Lib.hid (show W.heap[w.heap.size]? = some (.cells #[.slice none 0 0, .int .i64 0, .slice none 0 0] 29 (0, 0)) by rw [← hW]; exact heap_alloc_new _ _)
  have d1 : decide (60 < (m : Int)) = false := decide_eq_false (by omega)
  have d2 : decide ((n : Int) < 1) = false := decide_eq_false (by omega)
  have d3 : decide ((m : Int) < (n : Int)) = false := decide_eq_false (by omega)
  have d4 : decide (m < n) = false := decide_eq_false (by omega)
  go_enter Tryd.func8, Tryd.ntmps8
  go_upto_region 1 with fail
  clear hW
  go_wp2_with fail
  refine (A1.out _ HB.out).mono ?_
  rintro e w1 ⟨rfl, b⟩
  replace HB := Lib.hid (HB.out.trans (b.mono HB.out.size))
  replace HR := Lib.hid ((b.block _ (Array.getElem?_eq_some_iff.1 HR.out).1).trans HR.out)
  clear b
  have hz := HR.out
  have h0 := infoD (.slice none 0 0) (.int .i64 0) (.slice none 0 0)
  go_wp2_with (refine wpList_store_row rfl 29 (.tmp 6) (.tmp 39) rfl w.heap.size #[.slice none 0 0, .int .i64 0, .slice none 0 0] rfl rfl 29 #[.slice none 0 0, .int .i64 0, .slice none 0 0] hz h0.out (three_size _ _ _ _ _ _) (by simp [Value.oneCell']) ?_)
  refine bodyPost_ret (results_row_tmp rfl _ _ w.heap.size _ #[.slice none 0 0, .int .i64 0, .slice none 0 0] _ _ rfl (setRow_heap _ _ _ _ _ _ hz) Tryd.underlying29 rfl h0.out) rfl ?_
  exact ⟨rfl, Below.setRow' HB.out (Nat.le_refl _) _⟩
set_option maxRecDepth 100000 in
set_option maxHeartbeats 4000000 in
theorem Deal_noK (w : World) (p q : Option Addr) (n c m e : Nat) (seed : ByteArray) (h60 : m ≤ 60) (h1 : 1 ≤ n) (hnm : n ≤ m) (A1 : Hid (∀ W, Below w.heap.size w W → Calls Tryd.prog 20 #[.slice p n c, .func (.func 21) #[] #[]] W fun e w' => e = .returned (.bool true) ∧ Below W.heap.size W w')) (A2 : Hid (∀ W, Below w.heap.size w W → Calls Tryd.prog 20 #[.slice q m e, .func (.func 22) #[] #[]] W fun e w' => e = .returned (.bool false) ∧ Below W.heap.size W w')) :
    Calls Tryd.prog 8 #[.slice p n c, .slice q m e, .string seed] w (NoQ w) := by
  obtain ⟨W, hW⟩ : ∃ W, w.alloc (.cells #[.slice none 0 0, .int .i64 0, .slice none 0 0] 29) = W := ⟨_, rfl⟩
  have HB := Lib.hid (show Below w.heap.size w W by rw [← hW]; exact (Below.refl _ w).alloc (Nat.le_refl _) _)
  have HR := Lib.hid (show W.heap[w.heap.size]? = some (.cells #[.slice none 0 0, .int .i64 0, .slice none 0 0] 29 (0, 0)) by rw [← hW]; exact heap_alloc_new _ _)
  have d1 : decide (60 < (m : Int)) = false := decide_eq_false (by omega)
  have d2 : decide ((n : Int) < 1) = false := decide_eq_false (by omega)
  have d3 : decide ((m : Int) < (n : Int)) = false := decide_eq_false (by omega)
  have d4 : decide (m < n) = false := decide_eq_false (by omega)
  go_enter Tryd.func8, Tryd.ntmps8
  go_upto_region 1 with fail
  clear hW
  go_wp2_with fail
  refine (A1.out _ HB.out).mono ?_
  rintro e w1 ⟨rfl, b⟩
  replace HB := Lib.hid (HB.out.trans (b.mono HB.out.size))
  replace HR := Lib.hid ((b.block _ (Array.getElem?_eq_some_iff.1 HR.out).1).trans HR.out)
  clear b
  go_wp2_with fail
  refine (A2.out _ HB.out).mono ?_
  rintro e w2 ⟨rfl, b⟩
  replace HB := Lib.hid (HB.out.trans (b.mono HB.out.size))
  replace HR := Lib.hid ((b.block _ (Array.getElem?_eq_some_iff.1 HR.out).1).trans HR.out)
  clear b
  have hz := HR.out
  have h0 := infoD (.slice none 0 0) (.int .i64 0) (.slice none 0 0)
  go_wp2_with (refine wpList_store_row rfl 29 (.tmp 6) (.tmp 39) rfl w.heap.size #[.slice none 0 0, .int .i64 0, .slice none 0 0] rfl rfl 29 #[.slice none 0 0, .int .i64 0, .slice none 0 0] hz h0.out (three_size _ _ _ _ _ _) (by simp [Value.oneCell']) ?_)
  refine bodyPost_ret (results_row_tmp rfl _ _ w.heap.size _ #[.slice none 0 0, .int .i64 0, .slice none 0 0] _ _ rfl (setRow_heap _ _ _ _ _ _ hz) Tryd.underlying29 rfl h0.out) rfl ?_
  exact ⟨rfl, Below.setRow' HB.out (Nat.le_refl _) _⟩
theorem Deal_no (w : World) (cv kv : Value) (coefs keys : List Int) (seed : ByteArray) (hC : SL w cv coefs) (hK : SL w kv keys) (hrc : ∀ x ∈ coefs, i64 x) (hrk : ∀ x ∈ keys, i64 x) (hlc : coefs.length ≤ 1000000000) (hlk : keys.length ≤ 1000000000) (h : gd coefs keys = false) :
    Calls Tryd.prog 8 #[cv, kv, .string seed] w (NoQ w) := by
  have hC' := hC; have hK' := hK
  obtain ⟨p, c, rfl, hc⟩ := hC.form
  obtain ⟨q, e, rfl, hk⟩ := hK.form
  by_cases h60 : keys.length ≤ 60
  · by_cases h1 : 1 ≤ coefs.length
    · by_cases hnm : coefs.length ≤ keys.length
      · cases hq : coefs.all inQ with
        | false => exact Deal_noQ w p q _ c _ e seed h60 h1 hnm (Lib.hid fun W b => all_exponents W _ coefs false hq (hC'.below b) hrc hlc)
        | true =>
          cases hm : keys.all mem with
          | false => exact Deal_noK w p q _ c _ e seed h60 h1 hnm (Lib.hid fun W b => all_exponents W _ coefs true hq (hC'.below b) hrc hlc) (Lib.hid fun W b => all_members W _ keys false hm (hK'.below b) hrk hlk)
          | true =>
            exfalso
            unfold gd at h
            rw [decide_eq_false (by omega), decide_eq_false (by omega), decide_eq_false (by omega), hq, hm] at h
            simp at h
      · exact Deal_noM w p q _ c _ e seed h60 h1 (by omega)
    · exact Deal_no1 w p q _ c _ e seed h60 (by omega)
  · exact Deal_no60 w p q _ c _ e seed (by omega)
theorem gd_parts {coefs keys : List Int} (h : gd coefs keys = true) : keys.length ≤ 60 ∧ 1 ≤ coefs.length ∧ coefs.length ≤ keys.length ∧ coefs.all inQ = true ∧ keys.all mem = true := by
  unfold gd at h
  simp only [Bool.and_eq_true, Bool.not_eq_true', decide_eq_false_iff_not] at h
  obtain ⟨⟨⟨⟨a, b⟩, c⟩, d⟩, e⟩ := h
  exact ⟨by omega, by omega, by omega, d, e⟩
end Go.Proofs.YtjfbpmpdcmealaaDoor.D7
