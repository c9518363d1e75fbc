/-
  The sum and the product that are folded over factors.
  The walks of weight.sum, weight.areDifferent, weight.isResidue, weight.Share.
-/
import Derived.Test.YtbfplapjjeeceaaGreatDoorWFac
import Derived.Deep.AppendLies
import Derived.Laws.OwnMore
import Derived.OwnWalk
namespace Go.Proofs.YtbfplapjjeeceaaGreatDoor.W8
open Go.RowKit GM G4 D7P Go.Shelf
attribute [local go_sem] Oper.semAt_some
/-- a place of a list -/
def gt (ys : List Int) (i : Int) : Int := ys.getD i.toNat 0
theorem gt_some {ys : List Int} {i : Int} (h0 : 0 ≤ i) (h1 : i < (ys.length : Int)) : ∃ k : Nat, i = (k : Int) ∧ ys[k]? = some (gt ys i) := by
  refine ⟨i.toNat, by omega, ?_⟩
  unfold gt
  rw [List.getD_eq_getElem?_getD, List.getElem?_eq_getElem (by omega)]; rfl
noncomputable def jla (ys : List Int) (s : Int) (l : List (Int × Int)) : Int := l.foldl (fun s t => gm s (gp (gt ys t.1) t.2 2305843009213691579) 2305843009213691579) s
theorem jla_snoc (ys : List Int) (s : Int) (l : List (Int × Int)) (t : Int × Int) : jla ys s (l ++ [t]) = gm (jla ys s l) (gp (gt ys t.1) t.2 2305843009213691579) 2305843009213691579 := by unfold jla; rw [List.foldl_append]; rfl
theorem jla_i (ys : List Int) : ∀ (l : List (Int × Int)) (s : Int), i64 s → i64 (jla ys s l)
  | [], _, h => h
  | t :: l, s, _ => jla_i ys l (gm s (gp (gt ys t.1) t.2 2305843009213691579) 2305843009213691579) (by have := mPr s (gp (gt ys t.1) t.2 2305843009213691579); exact ⟨by omega, by omega⟩)
theorem gt_drop (ys0 ys : List Int) (y : Int) (k : Nat) (h : ys0.drop k = y :: ys) : gt ys0 (k : Int) = y := by
  unfold gt
  have := congrArg (fun m => m[0]?) h
  simp at this
  rw [Int.toNat_natCast, List.getD_eq_getElem?_getD, this]; rfl
theorem drop_next {ys0 ys : List Int} {y : Int} {k : Nat} (h : ys0.drop k = y :: ys) : ys0.drop (k+1) = ys := by
  have := congrArg (List.drop 1) h
  simpa [List.drop_drop, Nat.add_comm] using this
theorem jla_jl (ps ys0 : List Int) : ∀ (l ys : List Int) (k : Nat) (s : Int), ys0.drop k = ys → l.length = ys.length → jla ys0 s ((ips k l).map fun p => (p.1, fx ps p.2)) = jl ps s (l.zip ys)
  | [], _, _, _, _, _ => rfl
  | x :: l, [], _, _, _, h => by simp at h
  | x :: l, y :: ys, k, s, h, hl => by
    show jla ys0 (gm s (gp (gt ys0 (k : Int)) (fx ps x) 2305843009213691579) 2305843009213691579) ((ips (k+1) l).map fun p => (p.1, fx ps p.2)) = jl ps (gm s (gp y (fx ps x) 2305843009213691579) 2305843009213691579) (l.zip ys)
    rw [gt_drop ys0 ys y k h]
    exact jla_jl ps ys0 l ys (k+1) _ (drop_next h) (by simpa using hl)
theorem gp_i (a n : Int) : i64 (gp a n 2305843009213691579) := by have := pPr a n; exact ⟨by omega, by omega⟩
theorem lift_any (w : World) (z a n r : Int) (h : gm z (gp a n 2305843009213691579) 2305843009213691579 = r) (hz : i64 z) (ha : i64 a) (hn : i64 n) :
    Calls Tryz.prog 97 #[.int .i64 z, .int .i64 a, .int .i64 n] w fun e w2 => e = .returned (.int .i64 r) ∧ Below w.heap.size w w2 := by
  have hg := gp_i a n
  have P := Lib.hid fun W => pow_k W a n 2305843009213691579 _ rfl ha.1 ha.2 hn.2 (by decide)
  have M := Lib.hid fun W => mul_k W z (gp a n 2305843009213691579) 2305843009213691579 r h hz.1 hz.2 hg.1 hg.2 (by decide)
  generalize gp a n 2305843009213691579 = d at *
  clear h hg
  go_enter Tryz.func97, Tryz.ntmps97
  go_wp2_with fail
  refine (P.out _).mono ?_
  rintro e1 w1 ⟨rfl, b⟩
  have hb := Lib.hid b; clear b
  go_wp2_with fail
  refine (M.out _).mono ?_
  rintro e2 w2 ⟨rfl, rfl⟩
  go_wp2
  go_ret
  exact ⟨rfl, hb.out⟩
theorem step_lift (w : World) (Bn : Nat) (q : Option Addr) (m : Nat) (ys : List Int) (z i f r : Int) (hL : BoxL w Bn q m ys) (h : gm z (gp (gt ys i) f 2305843009213691579) 2305843009213691579 = r) (h0 : 0 ≤ i) (h1 : i < (ys.length : Int)) (hz : i64 z) (hf : i64 f) :
    Calls Tryz.prog 96 #[.int .i64 z, .int .i64 i, .int .i64 f, .pointer (some ⟨Bn, 0, none⟩)] w fun e w2 => e = .returned (.int .i64 r) ∧ Below w.heap.size w w2 := by
  obtain ⟨k, rfl, hk⟩ := gt_some h0 h1
  obtain ⟨b, o, rfl, hc⟩ := hL.c k _ hk
  have hy := hL.r _ (List.mem_of_getElem? hk)
  have hb := hL.h
  have hlt : k < ys.length := by omega
  obtain ⟨N, hN⟩ : ∃ N, ys.length = N := ⟨_, rfl⟩
  rw [hN] at hb hlt
  clear hN hL hk h0 h1
  generalize gt ys (k : Int) = y at *
  have L := Lib.hid fun W => lift_any W z y f r h hz hy hf
  clear h
  go_enter Tryz.func96, Tryz.ntmps96
  go_wp2_with fail
  refine (L.out _).mono ?_
  rintro e1 w1 ⟨rfl, b1⟩
  have hb1 := Lib.hid b1; clear b1
  go_wp2
  go_ret
  exact ⟨rfl, hb1.out⟩
set_option maxRecDepth 100000 in
set_option maxHeartbeats 4000000 in
theorem fold_lift (w : World) (z : Int) (Bl Bn : Nat) (p q : Option Addr) (c m : Nat) (l ys : List Int) (hL : BoxL w Bl p c l) (hY : BoxL w Bn q m ys) (hP : Pts l) (hlen : l.length = ys.length) (hzi : i64 z) :
    Calls Tryz.prog 94 #[.int .i64 z, .func (.func 117) #[] #[.pointer (some ⟨Bl, 0, none⟩)], .func (.func 96) #[] #[.pointer (some ⟨Bn, 0, none⟩)]] w fun e w' => e = .returned (.int .i64 (jl l z (l.zip ys))) ∧ Below w.heap.size w w' := by
  refine (callsIn_wide (n := 14)).1 ?_
  obtain ⟨W, hW⟩ : ∃ W, (w.alloc (.cells #[.int .i64 z] 3)).alloc (.cells #[.func (.func 96) #[] #[.pointer (some ⟨Bn, 0, none⟩)]] 51) = W := ⟨_, rfl⟩
  have ST := Lib.hid (fold_start w z (.func (.func 96) #[] #[.pointer (some ⟨Bn, 0, none⟩)]) W hW)
  have HL := Lib.hid (And.intro hL (And.intro hY (And.intro hP hlen))); clear hL hY hP hlen
  have mixed : Tryz.prog.follows .mixedOrders = true := by kernel_rfl
  refine callsIn_of_wp_marks Tryz.func94 rfl trivial ?_ rfl
  simp only [Tryz.ntmps94, List.size_toArray, List.length_cons, List.length_nil, Nat.reduceAdd, Nat.reduceSub, Array.replicate_succ, Array.replicate_zero, List.push_toArray, List.append_toArray, List.nil_append, List.cons_append]
  have HW := Lib.hid hW; clear hW
  gi_wp2_with fail
  rw [HW.out]
  refine wpIn_rangeFunc_ownF rfl (by omega) (gf := 117) (lb := #[.pointer (some ⟨Bl, 0, none⟩)]) rfl trivial (enters_of Tryz.func117 (by kernel_rfl) rfl)
    (fac_stops l.length 13 (by omega) w.heap.size (w.heap.size + 2) Bl p c l rfl W (by have := ST.out.1; omega) (by have := HL.out.1.lt; omega) (by have := HL.out.1.lt; omega) (HL.out.1.next ST.out.2.b) (fun b o e h => by obtain ⟨y, hy⟩ : ∃ y, l[0]? = some y := ⟨l[0]'h, List.getElem?_eq_getElem _⟩; obtain ⟨b2, o2, e2, hc⟩ := HL.out.1.c 0 y hy; rw [e] at e2; cases e2; have := World.block_lt_of_cell? _ _ hc; have : b < w.heap.size := this; omega) HL.out.2.2.1)
    (fun h k => KA.trans h k) (KA.put (by have := ST.out.1; omega)) (Below.refl _ _) (fun _ => rfl)
    (fun pre V => FI w w.heap.size (.func (.func 96) #[] #[.pointer (some ⟨Bn, 0, none⟩)]) (jla ys z (pre.map Subtype.val)) V) (fun _ _ _ => False) (FI.own (by have := ST.out.1; omega) _) (fun _ _ _ _ _ hs _ _ => hs) ST.out.2
    (fun y => { tmps := #[.int .i64 z, .func (.func 117) #[] #[.pointer (some ⟨Bl, 0, none⟩)], .func (.func 96) #[] #[.pointer (some ⟨Bn, 0, none⟩)], .pointer (some ⟨w.heap.size, 0, none⟩), undef, .pointer (some ⟨w.heap.size + 1, 0, none⟩), .int .i64 0, .int .i64 y.1.1, .int .i64 y.1.2, .func (.func 117) #[] #[.pointer (some ⟨Bl, 0, none⟩)], .int .i64 y.1.1, .int .i64 y.1.2, undef, undef, undef, undef, undef, undef], defers := [] }) ?assign ?body ?done ?stop
  case assign =>
    intro l y V K hK
    dsimp only [encP]
    gi_wp2
    exact hK
  case body =>
    rintro lo pre ⟨⟨y, m1⟩, hy, hm⟩ V hI hlen
    have hz := jla_i ys (pre.map Subtype.val) z hzi
    have hYV := HL.out.2.1.next hI.b
    obtain ⟨z2, hz2⟩ : ∃ z2, jla ys z ((pre ++ [(⟨(y, m1), hy, hm⟩ : P2 l.length)]).map Subtype.val) = z2 := ⟨_, rfl⟩
    have HC := Lib.hid (step_lift V Bn q m ys (jla ys z (pre.map Subtype.val)) y m1 z2 hYV (by rw [← hz2, List.map_append]; exact (jla_snoc ys z _ (y, m1)).symm) hy.2.1 (by rw [← HL.out.2.2.2]; exact hy.2.2) hz hm)
    have HZ := Lib.hid hz2; clear hz2
    generalize jla ys z (pre.map Subtype.val) = z1 at *
    have c0 := hI.c
    have c1 := hI.d
    have f0 := hI.f
    have hlt := hI.l1
    have HI := Lib.hid hI; clear hI
    gi_wp2_with fail
    refine ⟨trivial, ?_⟩
    refine (CallsIn.inRound lo (callsIn_wide.2 HC.out)).mono ?_
    rintro e V2 ⟨rfl, b⟩
    have d0 : V2.cell? ⟨w.heap.size, 0, none⟩ = some (.int .i64 z1) := (b.cell (p := ⟨w.heap.size, 0, none⟩) hlt).trans c0
    have g0 : V2.frozen? ⟨w.heap.size, 0, none⟩ = false := (b.frozen (p := ⟨w.heap.size, 0, none⟩) hlt).trans f0
    clear c0 c1 f0
    gi_wp2
    refine ⟨(keepsOthers_below b).trans (KeepsOthers.setCell _ _ _), (KA.below b HI.out.lt).trans (KA.set _ _ _), ?_⟩
    show FI w w.heap.size _ (jla ys z (List.map Subtype.val (pre ++ [(⟨(y, m1), hy, hm⟩ : P2 l.length)]))) _
    rw [HZ.out]
    exact HI.out.step (Nat.le_refl _) b z2
  case done =>
    rintro D zs V hD hS hI hK
    have c0 := hI.c
    have HI := Lib.hid hI; clear hI
    have HS := Lib.hid hS; clear hS
    gi_wp2
    refine ⟨by simp, .inl ⟨_, _, rfl, run_takeDeferred hK, ?_⟩⟩
    refine ⟨_, results_tmp (t := 6) rfl _ _ _, ?_, HI.out.b.trans (belowK_b (w := w) (Nat.le_refl _) V D _ _ (by have := ST.out.1; omega) hK rfl rfl)⟩
    rw [HS.out, show fps l = (ips 0 l).map (fun p => (p.1, fx l p.2)) from rfl, jla_jl l ys l ys 0 z rfl HL.out.2.2.2]
    try rfl
  case stop =>
    rintro D c pre V _ _ h _
    exact h.elim
end Go.Proofs.YtbfplapjjeeceaaGreatDoor.W8
namespace Go.Proofs.YtbfplapjjeeceaaGreatDoor.W8
open Go.RowKit GM G4 D7P Go.Maps
/-- a slice shows these numbers -/
structure SLi (w : World) (v : Value) (l : List Int) : Prop where
  h : ∃ (p : Option Addr) (c : Nat), v = .slice p l.length c ∧ ∀ (j : Nat) (y : Int), l[j]? = some y → ∃ b o, p = some ⟨b, o, none⟩ ∧ w.cell? ⟨b, o + j, none⟩ = some (.int .i64 y)
  r : ∀ y ∈ l, i64 y
  n : l.length ≤ 1000000000
theorem SLi.next {w w' : World} {v : Value} {l : List Int} (h : SLi w v l) (k : Below w.heap.size w w') : SLi w' v l := by
  obtain ⟨⟨p, c, e, hc⟩, hr, hn⟩ := h
  exact ⟨⟨p, c, e, fun j y hj => by
    obtain ⟨b, o, e, hc⟩ := hc j y hj
    exact ⟨b, o, e, (k.cell (p := ⟨b, o + j, none⟩) (World.block_lt_of_cell? _ _ hc)).trans hc⟩⟩, hr, hn⟩
theorem SLi.form {w : World} {v : Value} {l : List Int} (h : SLi w v l) : ∃ (p : Option Addr) (c : Nat), v = .slice p l.length c ∧ ∀ u : World, Below w.heap.size w u → BoxL (u.alloc (.cells #[v] 34)) u.heap.size p c l := by
  obtain ⟨⟨p, c, rfl, hc⟩, hr, hn⟩ := h
  refine ⟨p, c, rfl, fun u hu => ⟨by rw [World.cell?_alloc_at _ _ _ _ rfl]; rfl, fun j y hj => ?_, hr, hn⟩⟩
  obtain ⟨b, o, e, hc⟩ := hc j y hj
  have hb := World.block_lt_of_cell? _ _ hc
  refine ⟨b, o, e, ?_⟩
  rw [World.cell?_alloc_past _ _ _ (by show b < _; exact Nat.lt_of_lt_of_le hb hu.size)]
  exact (hu.cell (p := ⟨b, o + j, none⟩) hb).trans hc
def rq (n : Int) : Bool := decide (0 ≤ n) && decide (n < 1152921504606845789)
/-- all numbers from 1 to m, and different -/
def DF (m : Int) (l : List Int) : Prop := (∀ x ∈ l, 1 ≤ x ∧ x ≤ m) ∧ l.Nodup
theorem DF.snoc {m : Int} {l : List Int} {k : Nat} {x : Int} (h : DF m (l.take k)) (hx : l[k]? = some x) (h1 : 1 ≤ x) (h2 : x ≤ m) (h3 : (l.take k).contains x = false) : DF m (l.take (k+1)) := by
  rw [List.take_add_one, hx]
  refine ⟨fun y hy => ?_, ?_⟩
  · rcases List.mem_append.1 hy with hy | hy
    · exact h.1 y hy
    · simp at hy; subst hy; exact ⟨h1, h2⟩
  · rw [List.nodup_append]
    refine ⟨h.2, by simp, fun a ha b hb => ?_⟩
    simp at hb
    subst hb
    intro e
    subst e
    simp at h3
    exact h3 ha
theorem DF.not {m : Int} {l : List Int} {k : Nat} {x : Int} (hx : l[k]? = some x) (h : x < 1 ∨ m < x ∨ (l.take k).contains x = true) : ¬ DF m l := fun hd => by
  rcases h with h | h | h
  · have := hd.1 x (List.mem_of_getElem? hx); omega
  · have := hd.1 x (List.mem_of_getElem? hx); omega
  · have hm : x ∈ l.take k := by simpa using h
    obtain ⟨i, hi, he⟩ := List.mem_iff_getElem.1 hm
    obtain ⟨hk, hk2⟩ := List.getElem?_eq_some_iff.1 hx
    have hi2 : i < l.length := by simp at hi; omega
    have hi3 : i < k := by simp at hi; omega
    rw [List.getElem_take] at he
    have := (List.getElem?_inj hi2 hd.2 (j := k)).1 (by rw [hx, List.getElem?_eq_getElem hi2, he])
    omega
end Go.Proofs.YtbfplapjjeeceaaGreatDoor.W8
