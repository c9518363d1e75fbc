/-
  The laws' sanity holds.
-/
import Derived.Test.YtjfbpmpdcmealaaDoorDSan
namespace Go.Proofs.YtjfbpmpdcmealaaDoor.D7
open Go.RowKit GM SH G4 E6 D7P
theorem refPow_c (W : World) (a n m r : Int) (h : gp a n m = r) (ha : i64 a) (hn : n ≤ 9223372036854775807) (hm2 : m ≤ 9223372036854775807) :
    Calls Tryd.prog 13 #[.int .i64 a, .int .i64 n, .int .i64 m] W fun e w' => e = .returned (.int .i64 r) ∧ Below W.heap.size W w' := by
  subst h; exact (refPow_any W a n m ha.1 ha.2 hn hm2).mono fun e w' h => ⟨h.1, by rw [h.2]; exact Below.refl _ _⟩
theorem below_two {W w' : World} (a b : Obj) (h : Below ((W.alloc a).alloc b).heap.size ((W.alloc a).alloc b) w') : Below W.heap.size W w' :=
  (((Below.refl _ W).alloc (Nat.le_refl _) a).alloc (by simp) b).trans (h.mono (by simp; omega))
theorem below_one {W w' : World} (a : Obj) (h : Below (W.alloc a).heap.size (W.alloc a) w') : Below W.heap.size W w' :=
  ((Below.refl _ W).alloc (Nat.le_refl _) a).trans (h.mono (by simp))
theorem ts_two {W : World} (h : TS W) (a b : Obj) : TS ((W.alloc a).alloc b) := (h.below ((Below.refl _ W).alloc (Nat.le_refl _) a)).below ((Below.refl _ _).alloc (Nat.le_refl _) b)
theorem sl_first (W : World) (l : List Int) (n : Nat) (hn : l.length = n) (t : TypeId) (o : Obj) : SL ((W.alloc (.cells (l.map (Value.int .i64)).toArray t)).alloc o) (.slice (some ⟨W.heap.size, 0, none⟩) n n) l :=
  sl_new W _ W.heap.size n l hn (0, 0) t ((heap_alloc_old _ _ (by simp)).trans (heap_alloc_new W _))
theorem sl_second (W : World) (l : List Int) (n : Nat) (hn : l.length = n) (t : TypeId) (o : Obj) : SL ((W.alloc o).alloc (.cells (l.map (Value.int .i64)).toArray t)) (.slice (some ⟨W.heap.size + 1, 0, none⟩) n n) l :=
  sl_new W _ (W.heap.size + 1) n l hn (0, 0) t (by have := heap_alloc_new (W.alloc o) (.cells (l.map (Value.int .i64)).toArray t); rwa [World.size_alloc] at this)
theorem zl_second (W : World) (l : List ByteArray) (n : Nat) (hn : l.length = n) (t : TypeId) (o : Obj) : ZL ((W.alloc o).alloc (.cells (l.map Value.string).toArray t)) (.slice (some ⟨W.heap.size + 1, 0, none⟩) n n) l :=
  zl_new _ (W.heap.size + 1) n l hn (0, 0) t (by have := heap_alloc_new (W.alloc o) (.cells (l.map Value.string).toArray t); rwa [World.size_alloc] at this)
theorem sl_one (W : World) (l : List Int) (n : Nat) (hn : l.length = n) (t : TypeId) : SL (W.alloc (.cells (l.map (Value.int .i64)).toArray t)) (.slice (some ⟨W.heap.size, 0, none⟩) n n) l :=
  sl_new W _ W.heap.size n l hn (0, 0) t (heap_alloc_new W _)
theorem key9_i64 : i64 key9 := pp_i _ _
theorem three_keys : ∀ x ∈ [key9, key9, key9], i64 x := fun x hx => by
  simp only [List.mem_cons, List.not_mem_nil, or_false] at hx
  rcases hx with rfl | rfl | rfl <;> exact key9_i64
/-- what Deal answers, with slices that are read -/
theorem dealt_forms {w w' : World} {C : List Int} {pt : Int} {B : List ByteArray} {e : Ending} (h : DealtQ w C pt B e w') : ∃ p c q m, e = .returned (.tuple #[.agg #[.slice p C.length c, .int .i64 pt, .slice q B.length m], .bool true]) ∧ Below w.heap.size w w' ∧ SL w' (.slice p C.length c) C ∧ ZL w' (.slice q B.length m) B ∧
    w'.ownsRow w.heap.size 3 1 (.slice p C.length c) C.length (C.map (Value.int .i64)) ∧ w'.ownsRow w.heap.size 9 1 (.slice q B.length m) B.length (B.map Value.string) ∧ (∀ g, Value.ownBlock (.slice p C.length c) = some g → Value.ownBlock (.slice q B.length m) ≠ some g) := by
  obtain ⟨cv, bv, rfl, oc, ob, ne, b⟩ := h
  obtain ⟨p, c, rfl⟩ := own_nil cv oc
  obtain ⟨q, m, rfl⟩ := own_nil bv ob
  exact ⟨p, c, q, m, rfl, b, own_VL oc, own_VL ob, oc, ob, ne⟩
theorem pp4_i (l : List Int) : ∀ y ∈ l.map (pp 4), i64 y := fun y hy => by
  obtain ⟨x, _, rfl⟩ := List.mem_map.1 hy
  exact pp_i _ _
theorem dbs_get (coefs keys : List Int) (K : Int) (n i : Nat) (h : i < n) : (dbs coefs keys K n)[i]? = some (dbx coefs keys K i) := by
  unfold dbs; rw [List.getElem?_map, List.getElem?_range h]; rfl
/-- the owner of a key opens the box -/
theorem open_own (W : World) (sec K : Int) (i : Nat) (p q : Option Addr) (c m n l : Nat) (coefs keys : List Int) (hn : coefs.length = n) (hl : keys.length = l) (hC : SL W (.slice p n c) (coefs.map (pp 4))) (hB : ZL W (.slice q l m) (dbs coefs keys K l)) (hc : ∀ x ∈ coefs, 0 ≤ x) (hs : i64 sec) (hi : i < l) (hk : keys[i]? = some (pp 4 (ex sec))) (hK : 0 ≤ K) (hl60 : l ≤ 1000) (hn60 : n ≤ 1000) (hT : TS W) :
    Calls Tryd.prog 9 #[.int .i64 sec, .agg #[.slice p n c, .int .i64 (pp 4 K), .slice q l m], .int .i64 (i : Int)] W fun e w' => e = .returned (.tuple #[.agg #[.int .i64 ((i : Int) + 1), .int .i64 (vl coefs ((i : Int) + 1))], .bool true]) ∧ Below W.heap.size W w' := by
  have hb : dbx coefs keys K i = ⟨(bx (vl coefs ((i : Int) + 1)) (pd (pp (pp 4 (ex sec)) K) i)).toArray⟩ := by unfold dbx; rw [hk]; rfl
  have ho := tk_own coefs K (ex sec) i hK (ex_rng sec).1 hc
  have hd : (dbx coefs keys K i).data.toList = bx (vl coefs ((i : Int) + 1)) (pd (pp (pp 4 (ex sec)) K) i) := by rw [hb]
  have := Open_any W sec (pp 4 K) i p q n c l m (coefs.map (pp 4)) (dbs coefs keys K l) (dbx coefs keys K i) (dbs_get coefs keys K l i hi) hC hB (pp4_i _) (by rw [List.length_map]; omega) (by omega) hs (pp_i _ _) hT true (by rw [hd]; exact ho.1)
  rw [hd, ho.2] at this
  simp only [if_true] at this
  exact this
theorem d_one (n : Nat) (l : List UInt8) (h : n < 10^20) (hl : dgt 20 n = l) : (dcm (n : Int)).data.toList = l := (dcm_dgt n h).trans hl
theorem dtx_ex : dtx [4, 16] 64 [⟨#[97]⟩, ⟨#[]⟩] = [100, 101, 97, 108, 32, 50, 32, 52, 32, 49, 54, 32, 54, 52, 32, 54, 49, 32] := by
  have e2 : (dcm ((([4, 16] : List Int).length : Nat) : Int)).data.toList = [50] := d_one 2 _ (by decide) (by decide)
  have e4 : (dcm 4).data.toList = [52] := d_one 4 _ (by decide) (by decide)
  have e16 : (dcm 16).data.toList = [49, 54] := d_one 16 _ (by decide) (by decide)
  have e64 : (dcm 64).data.toList = [54, 52] := d_one 64 _ (by decide) (by decide)
  unfold dtx
  rw [e2, e64, show cpt [4, 16] = 32 :: (dcm 4).data.toList ++ (32 :: (dcm 16).data.toList ++ []) from rfl, e4, e16]
  rfl
theorem sanity_any (w : World) (hT : TS w) : Calls Tryd.prog 5 #[] w fun e w' => e = .returned (.bool true) ∧ Below w.heap.size w w' := by
  refine san_core w key9 (pp 4 (dk sA)) ([3, 5].map (pp 4)) (dbs [3, 5] [key9, key9, key9] (dk sA) 3) rfl (dbs_len _ _ _ _)
    (Lib.hid fun W => refPow_c W 4 9 _ key9 rfl (by decide) (by decide) (by decide))
    (Lib.hid fun W h => ?_) (Lib.hid fun W h => ?_) (Lib.hid fun W h => ?_)
    (Lib.hid fun W p c q m => Open_out W 9 5 _ p q 2 c 3 m (by decide)) (Lib.hid fun W p c q m h hC hB => ?_)
    (Lib.hid fun W => ?_) (Lib.hid fun W => ?_) (Lib.hid fun W => ?_) (Lib.hid fun W => ?_) (Lib.hid fun W h => ?_) hT
  · refine (Deal_no _ _ _ [1, 2] [key9] sA (sl_first W [1, 2] 2 rfl _ _) (sl_second W [key9] 1 rfl _ _) (by decide) (fun x hx => by rw [List.mem_singleton.1 hx]; exact key9_i64) (by decide) (show 1 ≤ 1000000000 by decide) ?_).mono fun e w' h => ⟨h.1, below_two _ _ h.2⟩
    unfold gd
    rw [show (!decide (([key9] : List Int).length < ([1, 2] : List Int).length)) = false from rfl]
    simp
  · refine (Deal_no _ _ _ [1] [2] sA (sl_first W [1] 1 rfl _ _) (sl_second W [2] 1 rfl _ _) (by decide) (by decide) (by decide) (by decide) ?_).mono fun e w' h => ⟨h.1, below_two _ _ h.2⟩
    unfold gd
    rw [show ([2] : List Int).all mem = false by rw [List.all_cons, mem_two]; rfl]
    simp
  · refine (Deal_yes _ _ _ [3, 5] [key9, key9, key9] sA (sl_first W [3, 5] 2 rfl _ _) (sl_second W [key9, key9, key9] 3 rfl _ _) (by decide) three_keys (by decide) (show 3 ≤ 60 by decide) (by decide) (show 2 ≤ 3 by decide) (by decide) (by simp only [List.all_cons, key9_mem]; rfl) (ts_two h _ _)).mono ?_
    intro e w' h
    obtain ⟨p, c, q, m, he, b, hC, hB, _⟩ := dealt_forms h
    rw [dbs_len] at he hB
    exact ⟨p, c, q, m, he, below_two _ _ b, hC, hB⟩
  · have e9 : ex 9 = 9 := ex_id 9 (by decide)
    have := open_own W 9 (dk sA) 1 p q c m 2 3 [3, 5] [key9, key9, key9] rfl rfl hC hB (by decide) (by decide) (by decide) (by rw [e9]; rfl) (dk_rng sA).1 (by decide) (by decide) h
    rw [show vl [3, 5] (((1 : Nat) : Int) + 1) = 13 by rw [vl_ev]; decide] at this
    exact this
  · have := Value_any _ _ [3, 5, 1] 2 (sl_one W [3, 5, 1] 3 rfl 3) (by decide) (by decide) (by decide)
    rw [show vl [3, 5, 1] 2 = 17 by rw [vl_ev]; decide] at this
    exact this.mono fun e w' h => ⟨h.1, below_one _ h.2⟩
  · have := Value_any _ _ [3, 5, 1] 0 (sl_one W [3, 5, 1] 3 rfl 3) (by decide) (by decide) (by decide)
    rw [show vl [3, 5, 1] 0 = 3 by rw [vl_ev]; decide] at this
    exact this.mono fun e w' h => ⟨h.1, below_one _ h.2⟩
  · exact At_any W (.slice none 0 0) [] 7 (VL.nil _ _ _) (by decide) (by decide) (by decide)
  · have := At_any _ _ [4] 7 (sl_one W [4] 1 rfl 3) (by decide) (by decide) (by decide)
    rw [show av [4] 7 = 4 by decide +kernel] at this
    exact this.mono fun e w' h => ⟨h.1, below_one _ h.2⟩
  · have := Text_any _ 64 _ _ [4, 16] [⟨#[97]⟩, ⟨#[]⟩] (sl_first W [4, 16] 2 rfl 3 _) (zl_second W [⟨#[97]⟩, ⟨#[]⟩] 2 rfl 9 _) (by decide) (by decide) (by rw [dtx_ex]; decide) (ts_two h _ _)
    rw [dtx_ex] at this
    exact this.mono fun e w' h => ⟨h.1, below_two _ _ h.2⟩
end Go.Proofs.YtjfbpmpdcmealaaDoor.D7
