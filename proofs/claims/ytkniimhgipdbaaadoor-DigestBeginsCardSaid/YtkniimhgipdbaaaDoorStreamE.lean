/-
  The walk of digest.Stream, for a length from 1 to 1048576.
-/
import Derived.Test.YtkniimhgipdbaaaDoorStreamD
namespace Go.Proofs.YtkniimhgipdbaaaDoor
open Go.RowKit SH Go
attribute [local go_sem] Oper.semAt_some
theorem ST.drew {h : Nat} {n : Int} {bs : List UInt8} {v : Value} {W : World} (s : ST h n bs v W) : ST h n bs v W.drew := ⟨s.box, s.txt, s.own.drew, s.lt⟩
theorem inr_store {l n : Nat} {P : Program} {o : Oper} {a : Act} {w : World} {K : Act → World → Prop} {Q : Exit → Act → World → Prop} (ty : TypeId) (x y : Operand) (ho : o.op = .store ty x y)
    (g : Nat) (cells : Array Value) (hx : a.eval x = .pointer (some ⟨g, 0, none⟩)) (hy : a.eval y = .agg cells)
    (t : TypeId) (old : Array Value) (hg : w.heap[g]? = some (.cells old t (0, 0))) (hi : (P.info? ty).map (·.size) = some cells.size)
    (hold : old.size = cells.size) (h1 : cells.all (·.oneCell') = true)
    (h : K (a.put o.dst undef) (w.setRow g cells)) : Oper.wpIn (Fence.wide.inRound l) n P o a w K Q := by
  refine ⟨fun _ _ => trivial, ?_⟩
  rw [show o.semAt (Fence.wide.inRound l).round a.eval = execOp a.eval o from Oper.semAt_some l _ _ (fun c => by rw [ho]; exact fun e => by cases e)]
  unfold execOp
  simp only [ho, hx, hy, Instr.storeAt, Instr.sureAddr, Sem.run_bind, Sem.run_pure, Result.andThen_ok, run_storeVar_row w g t ty old cells hg hi hold h1]
  exact h
theorem inr_list_store {l n : Nat} {P : Program} {ops : Array Oper} {rest : List Oper} {o : Oper} {a : Act} {w : World} {Q : Exit → Act → World → Prop} (hgd : o.guard = none) (ty : TypeId) (x y : Operand) (ho : o.op = .store ty x y)
    (g : Nat) (cells : Array Value) (hx : a.eval x = .pointer (some ⟨g, 0, none⟩)) (hy : a.eval y = .agg cells)
    (t : TypeId) (old : Array Value) (hg : w.heap[g]? = some (.cells old t (0, 0))) (hi : (P.info? ty).map (·.size) = some cells.size)
    (hold : old.size = cells.size) (h1 : cells.all (·.oneCell') = true)
    (h : wpListIn (Fence.wide.inRound l) n P ops Q rest (a.put o.dst undef) (w.setRow g cells)) : wpListIn (Fence.wide.inRound l) n P ops Q (o :: rest) a w :=
  wpListIn_plain hgd fun _ hK => inr_store ty x y ho g cells hx hy t old hg hi hold h1 (hK _ _ h)
theorem inr_append {l n : Nat} {P : Program} {ops : Array Oper} {o : Oper} {a : Act} {w X : World} {v y v2 : Value} {t ty : TypeId} {K : Act → World → Prop} {Q : Exit → Act → World → Prop} {E : Prop} (hw : Region.wanted o (yielded ops a.tmps) = true)
    (s x : Operand) (ho : o.op = .call { callee := .builtin .append, args := #[s, x], argTypes := #[t, t] }) (hty : o.type = ty) (hs : a.eval s = v) (hx : a.eval x = y)
    (hr : (Builtin.append_ #[t, t] ty #[v, y]).run P w = .ok v2 X) (h : K (a.put o.dst v2) X) : if Region.wanted o (yielded ops a.tmps) = true then Oper.wpIn (Fence.wide.inRound l) n P o a w K Q else E := by
  rw [if_pos hw]
  refine ⟨fun _ _ => trivial, ?_⟩
  rw [show o.semAt (Fence.wide.inRound l).round a.eval = execOp a.eval o from Oper.semAt_some l _ _ (fun c => by rw [ho]; exact fun e => by cases e)]
  unfold execOp
  simp only [ho, hty, resolve, invoke, builtin, Sem.run_bind, Sem.run_pure, Result.andThen_ok, List.map_toArray, List.map_cons, List.map_nil, hs, hx, hr]
  exact h
theorem ko_below {W V : World} (h : Below W.heap.size W V) : KeepsOthers W V := ⟨h.size, fun k o hk _ => (h.block k (Array.getElem?_eq_some_iff.1 hk).1).trans hk⟩
theorem own_parts {B h : Nat} {w : World} (hh : w.heap.size = h) (hB : h ≤ B) (C : List H32 → Prop) (n : Int) : OwnFrom B (fun pre W => C pre ∧ (∃ v, ST h n (flat pre) v W) ∧ Below h w W) := by
  intro s A D row hs hg hr
  obtain ⟨v, k⟩ := hs.2.1
  exact ⟨hs.1, ⟨v, k.ac (ac_grown hg (fun r e => (hr r e).2)) hg.size⟩, hs.2.2.grown hg (by have := hs.2.2.size; omega) (fun k e => by have := (hr k e).1; omega)⟩
set_option maxRecDepth 100000 in
set_option maxHeartbeats 4000000 in
theorem stream_any (w : World) (seed : ByteArray) (hs : seed.size ≤ 1000000) (n : Nat) (hn1 : 1 ≤ n) (hn2 : n ≤ 1048576) (hT : T3 w) :
    Calls Tryd.prog 7 #[.string seed, .int .i64 (n : Int)] w fun e w' => e = .returned (.string ⟨((flat (bks seed ((n + 31) / 32))).take n).toArray⟩) ∧ Below w.heap.size w w' := by
  obtain ⟨W, hW⟩ : ∃ W, ((w.alloc (.cells #[.int .i64 (n : Int)] 3)).alloc (.cells #[.slice none 0 0] 27)).alloc (.cells #[.string seed] 9) = W := ⟨_, rfl⟩
  have hbW : Below w.heap.size w W := by rw [← hW]; exact (((Below.refl _ w).alloc (Nat.le_refl _) _).alloc (by simp) _).alloc (by simp; omega) _
  have hsz : W.heap.size = w.heap.size + 3 := by rw [← hW]; simp
  have hbox : W.cell? ⟨w.heap.size + 1 + 1, 0, none⟩ = some (.string seed) := by rw [← hW, World.cell?_alloc_at _ _ _ _ (by simp)]; rfl
  have st : ST w.heap.size n (flat []) (.slice none 0 0) W := by
    have k1 : Below (w.heap.size + 1) (w.alloc (.cells #[.int .i64 (n : Int)] 3)) W := by rw [← hW]; exact ((Below.refl _ _).alloc (by simp) _).alloc (by simp) _
    have k2 : Below (w.heap.size + 2) ((w.alloc (.cells #[.int .i64 (n : Int)] 3)).alloc (.cells #[.slice none 0 0] 27)) W := by rw [← hW]; exact (Below.refl _ _).alloc (by simp) _
    refine ⟨(k1.block _ (by omega)).trans (heap_alloc_new w _), (k2.block _ (by omega)).trans ?_, World.ownsRow_nil _ _ _ _, by omega⟩
    have := heap_alloc_new (w.alloc (.cells #[.int .i64 (n : Int)] 3)) (.cells #[.slice none 0 0] 27)
    rwa [World.size_alloc] at this
  have info32 : Hid ((Tryd.prog.info? 29).map (·.size) = some 32) := Lib.hid (by kernel_rfl)
  refine (callsIn_wide (n := 12)).1 ?_
  refine callsIn_of_wp_marks Tryd.func7 rfl trivial ?_ rfl
  simp only [Tryd.ntmps7, List.size_toArray, List.length_cons, List.length_nil, Nat.reduceAdd, Nat.reduceSub, Array.replicate_succ, Array.replicate_zero, List.push_toArray, List.append_toArray, List.nil_append, List.cons_append]
  have h1 : ¬ ((n : Int) < 1) := by omega
  have h2 : ¬ ((1048576 : Int) < (n : Int)) := by omega
  have HT := Lib.hid (And.intro hT (And.intro hbW (And.intro hbox st))); clear hT hbW hbox st
  have HW := Lib.hid hW; clear hW
  gi_wp2_with (refine ⟨trivial, ?_⟩; refine (callsIn_wide.2 (blocks_fn _ seed)).mono ?_; rintro e w' ⟨rfl, rfl⟩)
  rw [HW.out]
  clear h1 h2
  refine range_ends rfl (by omega) (gf := 17) (lb := #[.pointer (some ⟨w.heap.size + 1 + 1, 0, none⟩)]) rfl trivial (enters_of Tryd.func17 (by kernel_rfl) rfl)
    (blocks_ends 11 w.heap.size n (w.heap.size + 1 + 1) (by omega) seed hs W (HT.out.1.below HT.out.2.1) HT.out.1.inside (by rw [hsz]; omega) HT.out.2.2.1 (by omega))
    (fun h k => Kp.trans h k) (Kp.put (by omega)) (Below.refl _ _) (fun _ => rfl)
    (fun pre V => 32 * pre.length < n ∧ (∃ v, ST w.heap.size n (flat pre) v V) ∧ Below w.heap.size w V)
    (fun pre V => (n ≤ 32 * pre.length ∧ 32 * pre.length < n + 32) ∧ (∃ v, ST w.heap.size n (flat pre) v V) ∧ Below w.heap.size w V)
    0 (fun pre V h => by have := h.1; omega)
    (own_parts rfl (by omega) _ _) (own_parts rfl (by omega) _ _) ⟨by simp; omega, ⟨_, HT.out.2.2.2⟩, HT.out.2.1⟩
    (fun pre x a1 V => ∃ q, a1 = { tmps := #[.string seed, .int .i64 (n : Int), undef, .pointer (some ⟨w.heap.size, 0, none⟩), .string ⟨#[]⟩, .pointer (some ⟨w.heap.size + 1, 0, none⟩), .pointer (some ⟨q, 0, none⟩), .int .i64 (n : Int), .bool false, .bool false, .int .i64 (n : Int), .bool false, .bool false, .string seed, .func (.func 17) #[] #[.pointer (some ⟨w.heap.size + 1 + 1, 0, none⟩)], hval x.1, undef, undef, undef, undef, undef, undef, undef, undef, undef, undef, undef], defers := [] } ∧ V.heap[q]? = some (Obj.cells (hcells x.1) 29 (0, 0)) ∧ 32 * pre.length < n ∧ (∃ v, ST w.heap.size n (flat pre) v V) ∧ Below w.heap.size w V)
    ?own ?assign ?body ?stop
  case own =>
    rintro pre x a1 _ A D row ⟨q, e, hq, hr⟩ hg hrow
    exact ⟨q, e, ac_grown hg (fun r e => (hrow r e).2) _ _ _ _ hq, own_parts rfl (by omega) (fun pre => 32 * pre.length < n) _ pre A D row hr hg hrow⟩
  case assign =>
    intro l pre x V hI K hK
    have hrow : (V.alloc (.cells (hcells (List.replicate 32 0)) 29)).heap[V.heap.size]? = some (Obj.cells (hcells (List.replicate 32 0)) 29 (0, 0)) := heap_alloc_new _ _
    have hin : (Tryd.prog.info? 29).map (·.size) = some (hcells x.1).size := by rw [hcells_size, x.2]; exact info32.out
    have hold : (hcells (List.replicate 32 0)).size = (hcells x.1).size := by rw [hcells_size, hcells_size, x.2]; rfl
    have HK := Lib.hid (And.intro hI hK); clear hI hK
    gi_wp2_with (refine inr_list_store rfl 29 (.tmp 6) (.tmp 15) rfl V.heap.size (hcells x.1) rfl rfl 29 _ hrow hin hold (hcells_one _) ?_)
    obtain ⟨⟨hlt, ⟨v, s⟩, hb⟩, hK⟩ := HK.out
    have bX : Below V.heap.size V ((V.alloc (.cells (hcells (List.replicate 32 0)) 29)).setRow V.heap.size (hcells x.1)) := Below.setRow' ((Below.refl _ V).alloc (Nat.le_refl _) _) (Nat.le_refl _) _
    exact hK _ _ (ko_below bX) ⟨bX.mono hb.size, fun g s r m x => x.below bX x.lt⟩ ⟨V.heap.size, rfl, setRow_heap _ _ _ _ _ _ hrow, hlt, ⟨v, s.ac (ac_below bX) bX.size⟩, hb.trans (bX.mono hb.size)⟩
  case body =>
    rintro l pre x a1 V ⟨q, rfl, hq, hlt, ⟨v, s⟩, hb⟩
    have hfl := flat_len pre
    obtain ⟨g, cap, X, hr, c0, c1, f1, HM⟩ := s.drew.more q x.1 x.2 hq (by omega)
    obtain ⟨d0, d1, e1⟩ := s.cells
    rw [hfl] at hr HM
    obtain ⟨L, hL⟩ : ∃ L, 32 * pre.length = L := ⟨_, rfl⟩
    rw [hL] at hr HM
    have HQ := Lib.hid (And.intro hq (And.intro hlt (And.intro hb (And.intro hfl hL)))); clear hq hlt hb hfl hL s
    gi_wp2
    refine wpIn_region_any (by kernel_rfl) ?_
    change wpAnyIn _ _ _ _ _ _ _ _ _ (World.drew V)
    refine wpAnyIn_ready (rs := [0, 1]) (by kernel_rfl) (by simp) ?_
    refine AllReadyIn.cons rfl (fun K hK => ?_) (AllReadyIn.cons rfl (fun K hK => ?_) AllReadyIn.nil)
    · go_simp
      refine hK _ _ ?_
      clear hK K
      refine wpAnyIn_ready (rs := [1]) (by kernel_rfl) (by simp) ?_
      refine AllReadyIn.cons rfl (fun K hK => ?_) AllReadyIn.nil
      go_simp
      refine hK _ _ ?_
      clear hK K
      refine wpAnyIn_ready (rs := [2]) (by kernel_rfl) (by simp) ?_
      refine AllReadyIn.cons rfl (fun K hK => ?_) AllReadyIn.nil
      refine inr_append (by rfl) (.tmp 16) (.tmp 17) rfl rfl rfl rfl hr ?_
      refine hK _ _ ?_
      clear hK K
      refine wpAnyIn_ready (rs := [3]) (by kernel_rfl) (by simp) ?_
      refine AllReadyIn.cons rfl (fun K hK => ?_) AllReadyIn.nil
      go_simp
      refine hK _ _ ?_
      clear hK K
      refine wpAnyIn_done (by kernel_rfl) ?_ _
      obtain ⟨sY, kY, pY⟩ := HM.out
      clear HM c0 c1 f1 d0 d1 e1 hr
      generalize X.setCell ⟨w.heap.size + 1, 0, none⟩ (.slice (some ⟨g, 0, none⟩) (L + 32) cap) = Y at *
      obtain ⟨y0, y1, _⟩ := sY.cells
      have HY := Lib.hid (And.intro sY (And.intro kY pY)); clear sY kY pY
      by_cases hge : n ≤ L + 32
      · have hg1 : (n : Int) ≤ (L : Int) + 32 := by omega
        gi_wp2
        obtain ⟨sY, kY, pY⟩ := HY.out
        obtain ⟨hq, hlt, hb, hfl, hL⟩ := HQ.out
        refine ⟨rfl, (KeepsOthers.drew V).trans kY, ⟨by simp; omega, by simp; omega⟩, ⟨_, by rw [flat_snoc]; exact sY⟩, hb.drew.trans pY.b⟩
      · have hg1 : ¬ ((n : Int) ≤ (L : Int) + 32) := by omega
        gi_wp2
        obtain ⟨sY, kY, pY⟩ := HY.out
        obtain ⟨hq, hlt, hb, hfl, hL⟩ := HQ.out
        refine ⟨(KeepsOthers.drew V).trans kY, ⟨(Below.refl _ V).drew.trans pY.b, fun g s r m x => pY.m g s r m x⟩, by simp; omega, ⟨_, by rw [flat_snoc]; exact sY⟩, hb.drew.trans pY.b⟩
    · go_simp
      refine hK _ _ ?_
      clear hK K
      refine wpAnyIn_ready (rs := [0]) (by kernel_rfl) (by simp) ?_
      refine AllReadyIn.cons rfl (fun K hK => ?_) AllReadyIn.nil
      go_simp
      refine hK _ _ ?_
      clear hK K
      refine wpAnyIn_ready (rs := [2]) (by kernel_rfl) (by simp) ?_
      refine AllReadyIn.cons rfl (fun K hK => ?_) AllReadyIn.nil
      refine inr_append (by rfl) (.tmp 16) (.tmp 17) rfl rfl rfl rfl hr ?_
      refine hK _ _ ?_
      clear hK K
      refine wpAnyIn_ready (rs := [3]) (by kernel_rfl) (by simp) ?_
      refine AllReadyIn.cons rfl (fun K hK => ?_) AllReadyIn.nil
      go_simp
      refine hK _ _ ?_
      clear hK K
      refine wpAnyIn_done (by kernel_rfl) ?_ _
      obtain ⟨sY, kY, pY⟩ := HM.out
      clear HM c0 c1 f1 d0 d1 e1 hr
      generalize X.setCell ⟨w.heap.size + 1, 0, none⟩ (.slice (some ⟨g, 0, none⟩) (L + 32) cap) = Y at *
      obtain ⟨y0, y1, _⟩ := sY.cells
      have HY := Lib.hid (And.intro sY (And.intro kY pY)); clear sY kY pY
      by_cases hge : n ≤ L + 32
      · have hg1 : (n : Int) ≤ (L : Int) + 32 := by omega
        gi_wp2
        obtain ⟨sY, kY, pY⟩ := HY.out
        obtain ⟨hq, hlt, hb, hfl, hL⟩ := HQ.out
        refine ⟨rfl, (KeepsOthers.drew V).trans kY, ⟨by simp; omega, by simp; omega⟩, ⟨_, by rw [flat_snoc]; exact sY⟩, hb.drew.trans pY.b⟩
      · have hg1 : ¬ ((n : Int) ≤ (L : Int) + 32) := by omega
        gi_wp2
        obtain ⟨sY, kY, pY⟩ := HY.out
        obtain ⟨hq, hlt, hb, hfl, hL⟩ := HQ.out
        refine ⟨(KeepsOthers.drew V).trans kY, ⟨(Below.refl _ V).drew.trans pY.b, fun g s r m x => pY.m g s r m x⟩, by simp; omega, ⟨_, by rw [flat_snoc]; exact sY⟩, hb.drew.trans pY.b⟩
  case stop =>
    rintro D pre V hD hpre ⟨⟨hc1, hc2⟩, ⟨v, s⟩, hb⟩ hK
    have hk : pre.length = (n + 31) / 32 := by omega
    rw [hk] at hpre
    obtain ⟨y0, y1, _⟩ := s.cells
    have hfl := flat_len pre
    obtain ⟨g, cap, rfl, hg1, hg2⟩ := s.own.form (by omega)
    obtain ⟨R, hR⟩ : ∃ R, (flat pre).take n = R := ⟨_, rfl⟩
    have hRl : R.length = n := by rw [← hR, List.length_take]; omega
    have hcap : n ≤ cap := by
      rcases s.own.2 with ⟨h0, _⟩ | ⟨g', cap', cur, e, _, _, h4, _⟩
      · cases h0
      · cases e; omega
    have hz := run_convert_bytes_back (P := Tryd.prog) V 27 9 t8 ⟨g, 0, none⟩ cap R Tryd.underlying27 Tryd.underlying5 Tryd.underlying9 (fun j hj => by
      refine s.own.cells rfl j _ ?_
      subst hR
      rw [List.getElem_take]
      have : j < (flat pre).length := by rw [List.length_take] at hj; omega
      simp [Lib.byteCells, this])
    rw [hRl] at hz
    have hfin : R = (flat (bks seed ((n + 31) / 32))).take n := by rw [← hR, ← hpre]
    obtain ⟨M, hM⟩ : ∃ M, (flat pre).length = M := ⟨_, rfl⟩
    rw [hM] at y1
    have hnM : n ≤ M := by omega
    have HX := Lib.hid (And.intro hfin (And.intro hb (And.intro hD hK))); clear hfin hb hD hpre hk hc1 hc2 hfl hg1 hg2 s hR hRl hM
    gi_wp2
    obtain ⟨hfin, hb, hD, hK2⟩ := HX.out
    refine ⟨by simp, .inl ⟨_, _, rfl, run_takeDeferred hK, ?_⟩⟩
    exact ⟨.string ⟨R.toArray⟩, results_tmp (t := 4) rfl _ _ _, by rw [hfin], hb.trans (belowK_b (w := w) (Nat.le_refl _) V D _ _ (by omega) hK rfl rfl)⟩
end Go.Proofs.YtkniimhgipdbaaaDoor
