/-
  The walk of the law RatioCommon.
-/
import Derived.Test.YteccbedmpjeamaaGreatDoorQL
import Derived.Test.YteccbedmpjeamaaGreatDoorQSan
import Derived.Test.YteccbedmpjeamaaGreatDoorQLaw
import Derived.Deep.CutBlock
import Derived.Laws.OwnMore
namespace Go.Proofs.YteccbedmpjeamaaGreatDoor
open Go.RowKit NM QM
theorem infoW3 (b : Bool) (x y : ByteArray) : Hid ((Tryz.prog.info? 26).map (·.size) = some (#[Value.bool b, .string x, .string y]).size) := Lib.hid (by show _ = some 3; kernel_rfl)
theorem w3_one (b : Bool) (x y : ByteArray) : (#[Value.bool b, .string x, .string y]).all (·.oneCell') = true := by simp [Value.oneCell']
theorem w3_size (b b' : Bool) (x y x' y' : ByteArray) : (#[Value.bool b, .string x, .string y]).size = (#[Value.bool b', .string x', .string y']).size := by simp
theorem ba_ls (s : ByteArray) : s.data.toList.length = s.size := (Lib.size_eq s).symm
theorem ba_ext_ls (s : ByteArray) (a b : Nat) : (s.extract a b).data.toList = (s.data.toList.drop a).take (b - a) := Lib.extract_data s a b
/-- a number without its sign, by its parts -/
def qg (q : Rat) : T3 := (false, NB q.num.natAbs, NB q.den)
/-- the row of a number in a block -/
def PX (w : World) (p : Nat) (b : Bool) (x y : ByteArray) : Prop := w.heap[p]? = some (.cells #[.bool b, .string x, .string y] 26 (0, 0))
theorem PX.next {w w' : World} {p : Nat} {b : Bool} {x y : ByteArray} (h : PX w p b x y) (k : Below w.heap.size w w') : PX w' p b x y := (k.block _ (Array.getElem?_eq_some_iff.1 h).1).trans h
/-- what the walk keeps: the tables, the frame, the box, the numbers -/
structure CQ (w : World) (gb : Bool) (S1 S2 : ByteArray) (av : Value) (A : List T3) (W : World) : Prop where
  t : Tp W
  b : Below w.heap.size w W
  r : PX W w.heap.size gb S1 S2
  a : LV W av A
theorem CQ.next {w : World} {gb : Bool} {S1 S2 : ByteArray} {av : Value} {A : List T3} {u v : World} (h : CQ w gb S1 S2 av A u) (k : Below u.heap.size u v) : CQ w gb S1 S2 av A v := ⟨h.t.below k, h.b.trans (k.mono h.b.size), h.r.next k, h.a.next k⟩
theorem LV.form {W : World} {v : Value} {l : List T3} (h : LV W v l) : ∃ p c, v = .slice p l.length c ∧ ∀ i (hi : i < l.length), ∃ b, p = some ⟨b, 0, none⟩ ∧ W.cell? ⟨b, i * 3, none⟩ = some (.bool l[i].1) ∧ W.cell? ⟨b, i * 3 + 1, none⟩ = some (.string l[i].2.1) ∧ W.cell? ⟨b, i * 3 + 2, none⟩ = some (.string l[i].2.2) := by
  rcases h with ⟨rfl, rfl⟩ | ⟨b, cap, rfl, h1, h2, h3⟩
  · exact ⟨none, 0, rfl, fun i hi => by simp at hi⟩
  · exact ⟨_, cap, rfl, fun i hi => ⟨b, rfl, h3 i hi⟩⟩
theorem own_form {w : World} {base : Nat} {e : TypeId} {size : Nat} {v : Value} {n : Nat} {xs : List Value} (h : w.ownsRow base e size v n xs) : ∃ p c, v = .slice p n c := by
  rcases h.2 with ⟨h1, h2⟩ | ⟨g, cap, cur, h1, _⟩
  · exact ⟨none, 0, by rw [h1, h2]⟩
  · exact ⟨_, _, h1⟩
theorem own_emptyR (W : World) (base : Nat) (h : base ≤ W.heap.size) : (W.alloc (.cells #[] 26)).ownsRow base 26 3 (.slice (some ⟨W.heap.size, 0, none⟩) 0 0) 0 [] :=
  ⟨rfl, .inr ⟨W.heap.size, 0, #[], rfl, h, heap_alloc_new _ _, Nat.le_refl _, Nat.zero_le _, rfl, rfl⟩⟩
theorem own_rowne {w : World} {base : Nat} {e : TypeId} {size : Nat} {g n c : Nat} {xs : List Value} (h : w.ownsRow base e size (.slice (some ⟨g, 0, none⟩) n c) n xs) (d : Nat) (cs : Array Value) (hd : g ≠ d) : (w.setRow d cs).ownsRow base e size (.slice (some ⟨g, 0, none⟩) n c) n xs := by
  refine ⟨h.1, ?_⟩
  rcases h.2 with ⟨h1, _⟩ | ⟨g', cap, cur, h1, h2, h3, h4⟩
  · cases h1
  · injection h1 with a1 a2 a3
    injection a1 with a1
    injection a1 with a1
    subst a1
    exact .inr ⟨g, cap, cur, by rw [a3], h2, (setRow_other w d g cs hd).trans h3, h4⟩
theorem own_lt {w : World} {base : Nat} {e : TypeId} {size : Nat} {g n c : Nat} {xs : List Value} (h : w.ownsRow base e size (.slice (some ⟨g, 0, none⟩) n c) n xs) : g < w.heap.size := (h.lt g rfl).2
theorem own_cells {w : World} {base : Nat} {e : TypeId} {size : Nat} {n : Nat} {v : Value} {xs : List Value} (h : w.ownsRow base e size v n xs) (hn : n ≠ 0) : ∃ b c, v = .slice (some ⟨b, 0, none⟩) n c ∧ ∀ j u, xs[j]? = some u → w.cell? ⟨b, j, none⟩ = some u := by
  rcases h.2 with ⟨_, h0⟩ | ⟨g, cap, cur, h1, h2, h3, h4, h5, h6, h7⟩
  · exact absurd h0 hn
  · refine ⟨g, cap, h1, fun j u hj => ?_⟩
    rw [cell_of_row w g j _ _ _ h3, ← Array.getElem?_toList]
    rw [← h7] at hj
    have hlt := (List.getElem?_eq_some_iff.1 hj).1
    rw [List.getElem?_take_of_lt (by rw [List.length_take] at hlt; omega)] at hj
    exact hj
theorem flr_len (l : List T3) : (flr l).length = l.length * 3 := by
  induction l with
  | nil => rfl
  | cons s l ih => show ([Value.bool s.1, .string s.2.1, .string s.2.2] ++ flr l).length = _; rw [List.length_append, ih]; show 3 + l.length * 3 = (l.length + 1) * 3; omega
theorem flr_one (l : List T3) : ∀ u ∈ flr l, u.oneCell' = true := by
  induction l with
  | nil => intro u h; cases h
  | cons s l ih =>
    intro u h
    rcases List.mem_append.1 (show u ∈ [Value.bool s.1, .string s.2.1, .string s.2.2] ++ flr l from h) with h | h
    · simp at h; rcases h with rfl | rfl | rfl <;> rfl
    · exact ih u h
/-- what Common gives of a list: the denominator, whether, the numerators -/
def cO (l : List T3) : Bool := !l.any badq
def cD (l : List T3) : ByteArray := if l.any badq = true then ⟨#[]⟩ else NB (lcl l)
def cL (l : List T3) : List ByteArray := if l.any badq = true then [] else wl l
theorem cL_len (l : List T3) : (cL l).length ≤ l.length := by
  unfold cL
  split
  · exact Nat.zero_le _
  · rw [wl_len]; exact Nat.le_refl _
theorem com_of {l : List T3} {w : World} {e : Ending} {w' : World} (h : ComV l w e w') : ∃ v, e = .returned (.tuple #[.string (cD l), v, .bool (cO l)]) ∧ SL w' v (cL l) ∧ Below w.heap.size w w' := by
  unfold cD cO cL
  rcases h with ⟨h1, h2, h3⟩ | ⟨h1, v, h2, h3, h4⟩
  · rw [h1, if_pos rfl, if_pos rfl]
    exact ⟨_, h2, ⟨none, 0, rfl, fun j s hj => by simp at hj⟩, h3⟩
  · rw [h1, if_neg (by decide), if_neg (by decide)]
    exact ⟨v, h2, h3, h4⟩
/-- an element's two texts -/
def qx (Q : List Rat) (k : Nat) : ByteArray := NB (Q.getD k 0).num.natAbs
def qy (Q : List Rat) (k : Nat) : ByteArray := NB (Q.getD k 0).den
/-- what the calls give, once the numbers are made -/
structure CC (Q : List Rat) : Prop where
  ok : cO (Q.map qg) = true
  ll : cL (Q.map qg) = wl (Q.map qg)
  make : ∀ k, k < Q.length → ∀ W, Tp W → Calls Tryz.prog 32 #[.bool false, .string (wh (Q.map qg) k), .string (cD (Q.map qg))] W fun e w' => e = .returned (.tuple #[.agg #[.bool false, .string (qx Q k), .string (qy Q k)], .bool true]) ∧ Below W.heap.size W w'
  ad : ∀ k, k < Q.length → ∀ W, Tp W → Calls Tryz.prog 14 #[.agg (qcells (sumq ((Q.map qg).take k))), .agg #[.bool false, .string (qx Q k), .string (qy Q k)]] W fun e w' => e = .returned (.agg (qcells (sumq ((Q.map qg).take (k+1))))) ∧ Below W.heap.size W w'
  su : ∀ W v, LV W v (Q.map qg) → Tp W → Calls Tryz.prog 30 #[v] W fun e w' => e = .returned (.agg (qcells (sumq (Q.map qg)))) ∧ Below W.heap.size W w'
theorem lists3 {W : World} {g : Nat} {a b c : Value} {A B C : List T3} (h : W.heap[g]? = some (.cells #[a, b, c] 49 (0, 0))) (ha : LV W a A) (hb : LV W b B) (hc : LV W c C)
    (sa : SzL 16 A ∧ A.length ≤ 13) (sb : SzL 16 B ∧ B.length ≤ 13) (sc : SzL 16 C ∧ C.length ≤ 13) : ∀ j, j < 3 → ∃ v l, W.cell? ⟨g, j, none⟩ = some v ∧ LV W v l ∧ SzL 16 l ∧ l.length ≤ 13 := by
  intro j hj
  rw [cell_of_row _ g j _ _ _ h]
  match j, hj with
  | 0, _ => exact ⟨a, A, rfl, ha, sa⟩
  | 1, _ => exact ⟨b, B, rfl, hb, sb⟩
  | 2, _ => exact ⟨c, C, rfl, hc, sc⟩
theorem szl_q3 (Q : List Rat) (h : ∀ q ∈ Q, SmQ 16 q) : SzL 16 (Q.map q3) := fun t ht => by
  obtain ⟨q, hq, rfl⟩ := List.mem_map.1 ht
  exact ⟨q_szA (h q hq), q_szB (h q hq)⟩
theorem szl_qg (Q : List Rat) (h : ∀ q ∈ Q, SmQ 16 q) : SzL 16 (Q.map qg) := fun t ht => by
  obtain ⟨q, hq, rfl⟩ := List.mem_map.1 ht
  exact ⟨q_szA (h q hq), q_szB (h q hq)⟩

set_option maxRecDepth 100000 in
set_option maxHeartbeats 16000000 in
theorem common_core (w : World) (v0 : Value) (gb : Bool) (rn rd : ByteArray)
    (S0 : Hid (∀ W, Tp W → Calls Tryz.prog 10 #[] W fun e w' => e = .returned (.bool true) ∧ Below W.heap.size W w'))
    (L0 : Hid (∀ W, Below w.heap.size w W → Calls Tryz.prog 38 #[v0] W fun e w' => (∃ (v : Value) (Q : List Rat), e = .returned v ∧ Q.length ≤ 12 ∧ (∀ q ∈ Q, SmQ 16 q) ∧ w'.ownsRow W.heap.size 26 3 v Q.length (flr (Q.map q3))) ∧ Below W.heap.size W w'))
    (HTp : Hid (∀ W, Below w.heap.size w W → Tp W))
    (CC0 : Hid (∀ Q : List Rat, Q.length ≤ 12 → (∀ q ∈ Q, SmQ 16 q) → CC Q))
    (CP : Hid (∀ W v l, LV W v l → SzL 16 l → l.length ≤ 13 → Tp W → Calls Tryz.prog 39 #[v] W fun e w' => ∃ v, e = .returned (.tuple #[.string (cD l), v, .bool (cO l)]) ∧ SL w' v (cL l) ∧ Below W.heap.size W w'))
    (CR : Hid (∀ W v l, LV W v l → SzL 16 l → l.length ≤ 13 → Calls Tryz.prog 40 #[v] W fun e w' => ∃ v, e = .returned (.tuple #[.string (cD l), v, .bool (cO l)]) ∧ SL w' v (cL l) ∧ Below W.heap.size W w'))
    (SM : Hid (∀ W a b L, SL W a L → SL W b L → L.length ≤ 13 → Calls Tryz.prog 41 #[a, b] W fun e w' => e = .returned (.bool true) ∧ Below W.heap.size W w'))
    (hT : Tp w) :
    Calls Tryz.prog 8 #[v0, .agg #[.bool gb, .string rn, .string rd]] w fun e w' => e = .returned (.bool true) ∧ Below w.heap.size w w' := by
  obtain ⟨i0, hi, hz0, hz1, hz2⟩ := info_parts infoT3
  obtain ⟨W, hW⟩ : ∃ W, w.alloc (.cells #[.bool gb, .string rn, .string rd] 26) = W := ⟨_, rfl⟩
  have b0 : Below w.heap.size w W := by rw [← hW]; exact (Below.refl _ _).alloc (Nat.le_refl _) _
  have r0 : PX W w.heap.size gb rn rd := by rw [← hW]; exact heap_alloc_new _ _
  have HT := Lib.hid (And.intro (hT.below b0) (And.intro b0 r0))
  clear hT b0 r0
  go_enter Tryz.func8, Tryz.ntmps8
  go_upto_region 1 with fail
  clear hW
  go_wp2_with fail
  refine (S0.out _ HT.out.1).mono ?_
  rintro r w1 ⟨rfl, b1⟩
  have K1 := Lib.hid (And.intro (HT.out.1.below b1) (And.intro (HT.out.2.1.trans (b1.mono HT.out.2.1.size)) (HT.out.2.2.next b1)))
  clear b1 HT S0
  obtain ⟨m1, hm1⟩ : ∃ m : Nat, min (rn.size : Int) 10 = (m : Int) := ⟨min rn.size 10, by omega⟩
  obtain ⟨m2, hm2⟩ : ∃ m : Nat, min (rd.size : Int) 10 = (m : Int) := ⟨min rd.size 10, by omega⟩
  have a1 : (0 : Int) ≤ (m1 : Int) := by omega
  have a2 : (m1 : Int) ≤ (rn.size : Int) := by omega
  have a3 : (0 : Int) ≤ (m2 : Int) := by omega
  have a4 : (m2 : Int) ≤ (rd.size : Int) := by omega
  obtain ⟨S1, e1⟩ : ∃ t, rn.extract 0 m1 = t := ⟨_, rfl⟩
  obtain ⟨S2, e2⟩ : ∃ t, rd.extract 0 m2 = t := ⟨_, rfl⟩
  have n1 : S1.size ≤ 16 := by rw [← e1, ← ba_ls, ba_ext_ls, List.length_take]; omega
  have n2 : S2.size ≤ 16 := by rw [← e2, ← ba_ls, ba_ext_ls, List.length_take]; omega
  have HN := Lib.hid (And.intro n1 n2)
  clear n1 n2
  have c1 : w1.cell? ⟨w.heap.size, 1, none⟩ = some (.string rn) := cell_of_row _ _ 1 _ _ _ K1.out.2.2
  have f1 := frozen_of_row _ _ 1 _ _ K1.out.2.2
  go_upto_region 3 with fail
  clear c1 f1
  have K2 := Lib.hid (show Below w.heap.size w (w1.setCell ⟨w.heap.size, 1, none⟩ (.string S1)) ∧ PX (w1.setCell ⟨w.heap.size, 1, none⟩ (.string S1)) w.heap.size gb S1 rd from ⟨K1.out.2.1.setCell (p := ⟨w.heap.size, 1, none⟩) (Nat.le_refl _) _, heap_setCell_same w1 w.heap.size 1 _ _ (.string S1) K1.out.2.2⟩)
  have KT := Lib.hid K1.out.1
  have K1b := Lib.hid K1.out.2.1
  clear K1
  generalize w1.setCell ⟨w.heap.size, 1, none⟩ (.string S1) = w2 at *
  have c2 : w2.cell? ⟨w.heap.size, 2, none⟩ = some (.string rd) := cell_of_row _ _ 2 _ _ _ K2.out.2
  have f2 := frozen_of_row _ _ 2 _ _ K2.out.2
  go_upto_region 4 with fail
  clear c2 f2
  have K3 := Lib.hid (show Below w.heap.size w (w2.setCell ⟨w.heap.size, 2, none⟩ (.string S2)) ∧ PX (w2.setCell ⟨w.heap.size, 2, none⟩ (.string S2)) w.heap.size gb S1 S2 from ⟨K2.out.1.setCell (p := ⟨w.heap.size, 2, none⟩) (Nat.le_refl _) _, heap_setCell_same w2 w.heap.size 2 _ _ (.string S2) K2.out.2⟩)
  clear K2
  generalize w2.setCell ⟨w.heap.size, 2, none⟩ (.string S2) = w3 at *
  clear a1 a2 a3 a4 hm1 hm2 e1 e2
  go_wp2_with fail
  refine (L0.out _ K3.out.1).mono ?_
  rintro r w4 ⟨⟨av, Q, rfl, hQ, hsm, hown⟩, b1⟩
  have hK4 : CQ w gb S1 S2 av (Q.map q3) w4 := ⟨HTp.out _ (K3.out.1.trans (b1.mono K3.out.1.size)), K3.out.1.trans (b1.mono K3.out.1.size), K3.out.2.next b1, own_LV (by rw [List.length_map]; exact hown)⟩
  obtain ⟨pa, ca, rfl, hcl⟩ := hK4.a.form
  have HCL := Lib.hid hcl
  rw [List.length_map] at hK4 ⊢
  clear hcl
  obtain ⟨nQ, hnQ⟩ : ∃ n, Q.length = n := ⟨_, rfl⟩
  rw [hnQ] at hK4 ⊢
  have K4 := Lib.hid hK4
  have hQ12 : nQ ≤ 12 := by omega
  have HQ := Lib.hid (And.intro hQ (And.intro hsm hnQ))
  clear b1 K3 hown hK4 hQ hsm hnQ L0 KT K1b
  go_upto_region 6 with fail
  go_upto_block 0 with fail
  go_cut [7] from 44 to 59 (fun g wx => ∃ pg cg, g = .slice pg nQ cg ∧ Hid (Below w4.heap.size w4 wx ∧ wx.ownsRow w4.heap.size 26 3 (.slice pg nQ cg) nQ (flr (Q.map qg)) ∧ (nQ = 0 → pg = none ∧ cg = 0)))
  case first =>
    go_wp2_with fail
    go_loopw [7, 8] (fun a i wr => ∃ k : Nat, k ≤ nQ ∧ i = .int .i64 (k : Int) ∧ Hid (wr.ownsRow w4.heap.size 26 3 a k (flr ((Q.take k).map qg)) ∧ Below w4.heap.size w4 wr ∧ (k = 0 → a = .slice none 0 0))) (fun _ i _ => nQ - (match i with | .int _ i => i.toNat | _ => 0))
    case atStart => exact ⟨0, Nat.zero_le _, rfl, Lib.hid ⟨World.ownsRow_nil _ _ _ _, Below.refl _ _, fun _ => rfl⟩⟩
    case round =>
      obtain ⟨k, hk, rfl, hR⟩ := hrel
      by_cases hlt : k < nQ
      · have hlt' : k < (Q.map q3).length := by rw [List.length_map, HQ.out.2.2]; exact hlt
        have hltQ : k < Q.length := by rw [HQ.out.2.2]; exact hlt
        obtain ⟨bA, hp, k0, k1, k2⟩ := HCL.out k hlt'
        subst hp
        rw [List.getElem_map] at k0 k1 k2
        have htk : (Q.take (k+1)).map qg = (Q.take k).map qg ++ [qg (Q[k]'hltQ)] := by rw [List.take_succ_eq_append_getElem hltQ, List.map_append]; rfl
        generalize Q[k]'hltQ = q at *
        have hqq : qg q = (false, (q3 q).2.1, (q3 q).2.2) := rfl
        rw [hqq] at htk
        obtain ⟨t, ht⟩ : ∃ t, q3 q = t := ⟨_, rfl⟩
        rw [ht] at k0 k1 k2 htk
        obtain ⟨u, v, y⟩ := t
        dsimp only at k0 k1 k2 htk
        have c0 := (hR.out.2.1.cell (p := ⟨bA, k * 3, none⟩) (World.block_lt_of_cell? _ _ k0)).trans k0
        have c1 := (hR.out.2.1.cell (p := ⟨bA, k * 3 + 1, none⟩) (World.block_lt_of_cell? _ _ k1)).trans k1
        have c2 := (hR.out.2.1.cell (p := ⟨bA, k * 3 + 2, none⟩) (World.block_lt_of_cell? _ _ k2)).trans k2
        have HTK := Lib.hid htk
        have hA := Lib.hid (show k + 1 ≤ maxLen ∧ (k + 1) * 40 ≤ 140737488355328 from ⟨by have := HQ.out.1; have := HQ.out.2.2; unfold maxLen; omega, by have := HQ.out.1; have := HQ.out.2.2; omega⟩)
        clear k0 k1 k2 htk hqq ht hlt' hltQ
        have m7 : (wr.alloc (.cells #[.bool false, .string ⟨#[]⟩, .string ⟨#[]⟩] 26)).heap[wr.heap.size]? = some (.cells #[.bool false, .string ⟨#[]⟩, .string ⟨#[]⟩] 26 (0, 0)) := heap_alloc_new _ _
        go_upto_region 10 with (refine wpList_store_row rfl 26 (.tmp 9) (.tmp 53) rfl wr.heap.size #[.bool u, .string v, .string y] rfl rfl 26 _ m7 (infoW3 u v y).out (w3_size _ _ _ _ _ _) (w3_one _ _ _) ?_)
        clear c0 c1 c2
        have b6 : Below wr.heap.size wr ((wr.alloc (.cells #[.bool false, .string ⟨#[]⟩, .string ⟨#[]⟩] 26)).setRow wr.heap.size #[.bool u, .string v, .string y]) := Below.setRow' ((Below.refl wr.heap.size wr).alloc (Nat.le_refl _) _) (Nat.le_refl _) _
        have m6 : ((wr.alloc (.cells #[.bool false, .string ⟨#[]⟩, .string ⟨#[]⟩] 26)).setRow wr.heap.size #[.bool u, .string v, .string y]).heap[wr.heap.size]? = some (.cells #[.bool u, .string v, .string y] 26 (0, 0)) := setRow_heap _ _ _ _ _ _ m7
        clear m7
        try change Code.wp _ _ _ _ ((wr.alloc (.cells #[.bool false, .string ⟨#[]⟩, .string ⟨#[]⟩] 26)).setRow wr.heap.size #[.bool u, .string v, .string y])
        generalize (wr.alloc (.cells #[.bool false, .string ⟨#[]⟩, .string ⟨#[]⟩] 26)).setRow wr.heap.size #[.bool u, .string v, .string y] = w6 at *
        obtain ⟨g6, hg6⟩ : ∃ g, wr.heap.size = g := ⟨_, rfl⟩
        rw [hg6] at m6 b6 ⊢
        have d0 : w6.cell? ⟨g6, 0, none⟩ = some (.bool u) := cell_of_row _ g6 0 _ _ _ m6
        have f0 := frozen_of_row _ g6 0 _ _ m6
        go_upto_region 11 with fail
        clear d0 f0
        have m8 : (w6.setCell ⟨g6, 0, none⟩ (.bool false)).heap[g6]? = some (.cells #[.bool false, .string v, .string y] 26 (0, 0)) := heap_setCell_same w6 g6 0 _ _ (.bool false) m6
        have b8 : Below g6 wr (w6.setCell ⟨g6, 0, none⟩ (.bool false)) := b6.setCell (p := ⟨g6, 0, none⟩) (Nat.le_refl _) _
        clear m6 b6
        generalize w6.setCell ⟨g6, 0, none⟩ (.bool false) = w8 at *
        rw [← hg6] at b8
        have HR8 := Lib.hid (And.intro (own_stay hR.out.1 b8) (hR.out.2.1.trans (b8.mono hR.out.2.1.size)))
        clear b8 hg6 hR w6
        go_wp2_with (first | (refine wpList_load_row rfl 26 (.tmp 9) rfl g6 rfl 26 #[.bool false, .string v, .string y] (0, 0) _ m8 Tryz.underlying26 rfl (infoW3 false v y).out ?_) | (at_builtin; go_must (refine wpList_append_lies _ rfl _ _ 38 rfl w4.heap.size 26 i0 (.agg #[.bool false, .string ⟨#[]⟩, .string ⟨#[]⟩]) 3 40 Tryz.underlying38 hi hz0 hz1 hz2 rfl (by decide) _ k (flr ((Q.take k).map qg)) rfl (HR8.out.1.alloc _) ⟨w8.heap.size, 0, none⟩ 1 1 [.bool false, .string v, .string y] rfl rfl (World.news_of_block (heap_alloc_new _ _)) (by simp [Value.oneCell']) Nat.zero_lt_one hA.out.1 hA.out.2 (by rw [World.size_alloc]; exact Nat.le_succ_of_le HR8.out.2.size) _ rfl ?_); intro g9 c9 w9 hown9 hgrow9 hat9 hlt9))
        have HC9 := HR8.out.2.trans (((Below.refl _ w8).alloc (Nat.le_refl _) (.cells #[.bool false, .string v, .string y] 26)).mono HR8.out.2.size)
        have K9 := Lib.hid (show w9.ownsRow w4.heap.size 26 3 (.slice (some ⟨g9, 0, none⟩) (k + 1) c9) (k + 1) (flr ((Q.take (k+1)).map qg)) ∧ Below w4.heap.size w4 w9 ∧ (k + 1 = 0 → Value.slice (some ⟨g9, 0, none⟩) (k + 1) c9 = .slice none 0 0) from ⟨by rw [HTK.out, flr_app]; exact hown9, HC9.grown hgrow9 HC9.size (fun r hr => (HR8.out.1.lt r hr).1), fun h => by omega⟩)
        clear hown9 hgrow9 hat9 hlt9 HC9 HR8 HTK m8
        try go_wp2
        exact ⟨⟨k + 1, by omega, by go_num, K9⟩, by simp; omega⟩
      · obtain rfl : k = nQ := by omega
        have hE : Q.take k = Q := List.take_of_length_le (by rw [HQ.out.2.2]; exact Nat.le_refl _)
        rw [hE] at hR
        obtain ⟨pg, cg, rfl⟩ := own_form hR.out.1
        have hz : k = 0 → pg = none ∧ cg = 0 := fun h => by
          have := hR.out.2.2 h
          injection this with h1 h2 h3
          exact ⟨h1, h3⟩
        have HF := Lib.hid (And.intro hR.out.2.1 (And.intro hR.out.1 hz))
        clear hR hz hE
        go_wp2_with fail
        go_meet
        exact ⟨pg, cg, rfl, HF⟩
  case rest =>
  obtain ⟨pg, cg, rfl, HG⟩ := hcut
  have K5 := Lib.hid (K4.out.next HG.out.1)
  have HLG := Lib.hid (own_LV (l := Q.map qg) (by rw [List.length_map, HQ.out.2.2]; exact HG.out.2.1))
  go_upto_region 12 with fail
  go_cut [10] from 59 to 68 (fun v wx => ∃ g pr cr, v = .pointer (some ⟨g, 0, none⟩) ∧ Hid (Below wc.heap.size wc wx ∧ wx.heap[g]? = some (.cells #[.slice pa nQ ca, .slice pg nQ cg, .slice pr (nQ + 1) cr] 49 (0, 0)) ∧ LV wx (.slice pr (nQ + 1) cr) (Q.map qg ++ [(gb, S1, S2)])))
  case first =>
    have hWB : Below wc.heap.size wc wc.drew := (Below.refl _ _).drew
    have hBX : PX wc.drew w.heap.size gb S1 S2 := K5.out.r.next hWB
    have hown := own_stay HG.out.2.1 hWB
    have hnil := HG.out.2.2
    refine wp_region_held_drew (S := Below wc.drew.heap.size wc.drew) (by kernel_rfl) (Below.refl _ _) (fun hS => ?_)
    generalize wc.drew = wd at *
    have LWB := Lib.hid hWB
    have HBX := Lib.hid hBX
    obtain ⟨BB, hBB⟩ : ∃ B, wd.heap.size = B := ⟨_, rfl⟩
    rw [hBB] at hS ⊢
    have HBB := Lib.hid hBB
    have hB := hS
    clear hWB hBX hBB
    by_cases hnz : nQ = 0
    · obtain ⟨e1, e2⟩ := hnil hnz
      subst e1 e2
      subst hnz
      have hQ0 : Q = [] := List.length_eq_zero_iff.1 HQ.out.2.2
      subst hQ0
      clear hown hnil
      refine wpAnyH_take (i := 0) (v := ?vx0) rfl (by kernel_rfl) (by kernel_rfl) (by kernel_rfl) (fun _ _ _ h => h) (Or.inl ⟨by rfl, ?yx0⟩) hS ?rx0
      case yx0 => (intro w hS; go_simp; try with_reducible rfl)
      refine wpAnyH_take (i := 1) (v := ?vx1) rfl (by kernel_rfl) (by kernel_rfl) (by kernel_rfl) (fun _ _ _ h => h) (Or.inl ⟨by rfl, ?yx1⟩) hS ?rx1
      case yx1 => (intro w hS; go_simp; try with_reducible rfl)
      refine wpAnyH_take (i := 3) (v := ?vx3) rfl (by kernel_rfl) (by kernel_rfl) (by kernel_rfl) (fun _ _ _ h => h) (Or.inl ⟨by rfl, ?yx3⟩) hS ?rx3
      case yx3 => (intro w hS; go_simp; try with_reducible rfl)
      refine wpAnyH_take (i := 5) (v := .agg (#[.bool gb, .string S1, .string S2])) rfl (by kernel_rfl) (by kernel_rfl) (by kernel_rfl) (fun _ _ _ h => h) (Or.inl ⟨by rfl, ?yx5⟩) hS ?rx5
      case yx5 => exact fun w' hS => exec_load_row w' 26 (.tmp 3) rfl w.heap.size (by first | rfl | (simp [Act.eval])) 26 (#[.bool gb, .string S1, .string S2]) (0, 0) _ ((hS.block _ (by rw [← HBB.out]; exact (Array.getElem?_eq_some_iff.1 HBX.out).1)).trans HBX.out) Tryz.underlying26 rfl (infoW3 gb S1 S2).out
      go_simp
      refine wpAnyH_ready (rs := [2, 6, 9]) (by kernel_rfl) (by simp) ?_
      refine (AllReadyH.cons (o := { dst := some 61, op := .buildSlice 38 0 #[], type := 38, pos := "law.go:106", after := #[], guard := none }) rfl (fun K hK => ?_) (AllReadyH.cons (o := { dst := some 65, op := .buildSlice 38 1 #[(0, .tmp 64)], type := 38, pos := "law.go:106", after := #[⟨5, .data⟩], guard := none }) rfl (fun K hK => ?_) (AllReadyH.cons (o := { dst := some 10, op := .alloc 49, type := 0, pos := "law.go:106", after := #[], guard := none }) rfl (fun K hK => ?_) AllReadyH.nil)))
      · go_simp
        have own8 := own_emptyR wd BB (Nat.le_trans (Nat.le_of_eq HBB.out.symm) hB.size)
        have hG8 : BB ≤ wd.heap.size := Nat.le_trans (Nat.le_of_eq HBB.out.symm) hB.size
        have bA := (Below.refl wd.heap.size wd).alloc (Nat.le_refl _) (.cells #[] 26)
        replace hB := hB.trans (bA.mono (Nat.le_trans (Nat.le_of_eq HBB.out.symm) hB.size))
        have hS2 := hB
        clear hS bA
        refine hK.out _ _ hS2 (fun hS => ?_)
        clear hK K hS2
        obtain ⟨g8, hg8⟩ : ∃ g, wd.heap.size = g := ⟨_, rfl⟩
        replace hG8 : BB ≤ g8 := by omega
        rw [hg8] at own8 ⊢
        obtain ⟨w8x, hw8⟩ : ∃ V, World.alloc wd (.cells #[] 26) = V := ⟨_, rfl⟩
        rw [hw8] at own8 hB hS  ⊢
        clear hw8 hg8 
        refine wpAnyH_ready (rs := [4, 6, 9]) (by kernel_rfl) (by simp) ?_
        refine (AllReadyH.cons (o := { dst := some 63, op := .call { callee := .builtin .append, args := #[.tmp 61, .tmp 62], argTypes := #[38, 38] }, type := 38, pos := "law.go:106", after := #[⟨2, .data⟩, ⟨3, .data⟩], guard := none }) rfl (fun K hK => ?_) (AllReadyH.cons (o := { dst := some 65, op := .buildSlice 38 1 #[(0, .tmp 64)], type := 38, pos := "law.go:106", after := #[⟨5, .data⟩], guard := none }) rfl (fun K hK => ?_) (AllReadyH.cons (o := { dst := some 10, op := .alloc 49, type := 0, pos := "law.go:106", after := #[], guard := none }) rfl (fun K hK => ?_) AllReadyH.nil)))
        · have hr := run_append_owned_none (P := Tryz.prog) (w := w8x) BB 38 38 26 i0 3 Tryz.underlying38 hi _ 0 [] own8
          go_simp
          clear hr
          refine hK.out _ _ hS (fun hS => ?_)
          clear hK K
          refine wpAnyH_ready (rs := [6, 9]) (by kernel_rfl) (by simp) ?_
          refine (AllReadyH.cons (o := { dst := some 65, op := .buildSlice 38 1 #[(0, .tmp 64)], type := 38, pos := "law.go:106", after := #[⟨5, .data⟩], guard := none }) rfl (fun K hK => ?_) (AllReadyH.cons (o := { dst := some 10, op := .alloc 49, type := 0, pos := "law.go:106", after := #[], guard := none }) rfl (fun K hK => ?_) AllReadyH.nil))
          · go_simp
            have hN6 := heap_alloc_new w8x (.cells #[.bool gb, .string S1, .string S2] 26)
            have hG6 : BB ≤ w8x.heap.size := Nat.le_trans (Nat.le_of_eq HBB.out.symm) hB.size
            have bA := (Below.refl w8x.heap.size w8x).alloc (Nat.le_refl _) (.cells #[.bool gb, .string S1, .string S2] 26)
            have lt8 := own_lt own8
            replace own8 := own_stay own8 bA
            replace hB := hB.trans (bA.mono (Nat.le_trans (Nat.le_of_eq HBB.out.symm) hB.size))
            have hS2 := hB
            clear hS bA
            refine hK.out _ _ hS2 (fun hS => ?_)
            clear hK K hS2
            obtain ⟨g6, hg6⟩ : ∃ g, w8x.heap.size = g := ⟨_, rfl⟩
            replace hG6 : BB ≤ g6 := by omega
            have ne86 : g8 ≠ g6 := by omega
            rw [hg6] at hN6 ⊢
            obtain ⟨w6xaa, hw6⟩ : ∃ V, World.alloc w8x (.cells #[.bool gb, .string S1, .string S2] 26) = V := ⟨_, rfl⟩
            rw [hw6] at hN6 hB hS own8 ⊢
            clear hw6 hg6 lt8
            refine wpAnyH_ready (rs := [7, 9]) (by kernel_rfl) (by simp) ?_
            refine (AllReadyH.cons (o := { dst := some 66, op := .call { callee := .builtin .append, args := #[.tmp 63, .tmp 65], argTypes := #[38, 38] }, type := 38, pos := "law.go:106", after := #[⟨4, .data⟩, ⟨6, .data⟩, ⟨4, .chain⟩], guard := none }) rfl (fun K hK => ?_) (AllReadyH.cons (o := { dst := some 10, op := .alloc 49, type := 0, pos := "law.go:106", after := #[], guard := none }) rfl (fun K hK => ?_) AllReadyH.nil))
            · refine step_append_lies _ rfl _ _ 38 rfl BB 26 i0 (.agg #[.bool false, .string ⟨#[]⟩, .string ⟨#[]⟩]) 3 40 Tryz.underlying38 hi hz0 hz1 hz2 rfl (by decide) _ 0 [] rfl own8 ⟨g6, 0, none⟩ 1 1 [.bool gb, .string S1, .string S2] rfl rfl (World.news_of_block hN6) (by simp [Value.oneCell']) Nat.zero_lt_one (by unfold maxLen; omega) (by omega) (Nat.le_trans (Nat.le_of_eq HBB.out.symm) hB.size) _ rfl ?_
              intro g7 c7 w7xaaa hown7 hgrow7 hat7 hlt7
              have b7 : Below BB wd w7xaaa := hB.grown hgrow7 (Nat.le_trans (Nat.le_of_eq HBB.out.symm) hB.size) (fun r hr => (own8.lt r hr).1)
              have own7 := hown7
              replace hB := b7
              have hS2 := hB
              clear hS b7 hown7 hgrow7 hat7 hlt7 own8 hN6
              refine hK.out _ _ hS2 (fun hS => ?_)
              clear hK K hS2
              refine wpAnyH_take (i := 8) (v := ?vxaaaa8) rfl (by kernel_rfl) (by kernel_rfl) (by kernel_rfl) (fun _ _ _ h => h) (Or.inl ⟨by rfl, ?yxaaaa8⟩) hS ?rxaaaa8
              case yxaaaa8 => (intro w hS; go_simp; try with_reducible rfl)
              go_simp
              refine wpAnyH_ready (rs := [9]) (by kernel_rfl) (by simp) ?_
              refine (AllReadyH.cons (o := { dst := some 10, op := .alloc 49, type := 0, pos := "law.go:106", after := #[], guard := none }) rfl (fun K hK => ?_) AllReadyH.nil)
              go_simp
              have hN1 := heap_alloc_new w7xaaa (.cells #[.slice none 0 0, .slice none 0 0, .slice none 0 0] 49)
              have hG1 : BB ≤ w7xaaa.heap.size := Nat.le_trans (Nat.le_of_eq HBB.out.symm) hB.size
              have bA := (Below.refl w7xaaa.heap.size w7xaaa).alloc (Nat.le_refl _) (.cells #[.slice none 0 0, .slice none 0 0, .slice none 0 0] 49)
              have lt7 := own_lt own7
              replace own7 := own_stay own7 bA
              replace hB := hB.trans (bA.mono (Nat.le_trans (Nat.le_of_eq HBB.out.symm) hB.size))
              have hS2 := hB
              clear hS bA
              refine hK.out _ _ hS2 (fun hS => ?_)
              clear hK K hS2
              obtain ⟨g1, hg1⟩ : ∃ g, w7xaaa.heap.size = g := ⟨_, rfl⟩
              replace hG1 : BB ≤ g1 := by omega
              have ne71 : g7 ≠ g1 := by omega
              rw [hg1] at hN1 ⊢
              obtain ⟨w1xaaaa, hw1⟩ : ∃ V, World.alloc w7xaaa (.cells #[.slice none 0 0, .slice none 0 0, .slice none 0 0] 49) = V := ⟨_, rfl⟩
              rw [hw1] at hN1 hB hS own7 ⊢
              clear hw1 hg1 lt7
              refine wpAnyH_ready (rs := [10]) (by kernel_rfl) (by simp) ?_
              refine (AllReadyH.cons (o := { dst := none, op := .store 49 (.tmp 10) (.tmp 67), type := 0, pos := "law.go:106", after := #[⟨9, .data⟩, ⟨8, .data⟩, ⟨7, .chain⟩, ⟨0, .phase⟩, ⟨1, .phase⟩, ⟨2, .phase⟩, ⟨3, .phase⟩, ⟨4, .phase⟩, ⟨5, .phase⟩, ⟨6, .phase⟩, ⟨7, .phase⟩, ⟨8, .phase⟩, ⟨9, .phase⟩], guard := none }) rfl (fun K hK => ?_) AllReadyH.nil)
              rw [if_pos (by rfl)]
              refine wp_store_row 49 (.tmp 10) (.tmp 67) rfl g1 (#[.slice pa 0 ca, .slice none 0 0, .slice (some ⟨g7, 0, none⟩) (0 + 1) c7]) (by first | rfl | (simp [Act.eval])) (by first | rfl | (simp [Act.eval])) 49 #[.slice none 0 0, .slice none 0 0, .slice none 0 0] hN1 (by kernel_rfl) (by simp) (by simp [Value.oneCell']) ?_
              replace hB := Below.setRow' hB hG1 (#[.slice pa 0 ca, .slice none 0 0, .slice (some ⟨g7, 0, none⟩) (0 + 1) c7])
              have hS2 := hB
              have hrow2 := setRow_heap _ _ _ (#[.slice pa 0 ca, .slice none 0 0, .slice (some ⟨g7, 0, none⟩) (0 + 1) c7]) _ _ hN1
              replace own7 := own_rowne own7 g1 (#[.slice pa 0 ca, .slice none 0 0, .slice (some ⟨g7, 0, none⟩) (0 + 1) c7]) ne71
              clear hS
              refine hK.out _ _ hS2 (fun hS => ?_)
              clear hK K hS2
              refine wpAnyH_done (by kernel_rfl) ?_ _
              go_wp2_with fail
              go_meet
              exact ⟨g1, some ⟨g7, 0, none⟩, c7, rfl, Lib.hid ⟨LWB.out.trans (hB.mono (Nat.le_trans LWB.out.size (Nat.le_of_eq HBB.out))), hrow2, own_LV (by first | (rw [List.length_append, List.length_map, HQ.out.2.2, flr_app]; exact own7) | exact own7)⟩⟩
            · go_simp
              have hN1 := heap_alloc_new w6xaa (.cells #[.slice none 0 0, .slice none 0 0, .slice none 0 0] 49)
              have hG1 : BB ≤ w6xaa.heap.size := Nat.le_trans (Nat.le_of_eq HBB.out.symm) hB.size
              have bA := (Below.refl w6xaa.heap.size w6xaa).alloc (Nat.le_refl _) (.cells #[.slice none 0 0, .slice none 0 0, .slice none 0 0] 49)
              have lt8 := own_lt own8
              replace own8 := own_stay own8 bA
              have lt6 := (Array.getElem?_eq_some_iff.1 hN6).1
              replace hN6 := (bA.block _ lt6).trans hN6
              replace hB := hB.trans (bA.mono (Nat.le_trans (Nat.le_of_eq HBB.out.symm) hB.size))
              have hS2 := hB
              clear hS bA
              refine hK.out _ _ hS2 (fun hS => ?_)
              clear hK K hS2
              obtain ⟨g1, hg1⟩ : ∃ g, w6xaa.heap.size = g := ⟨_, rfl⟩
              replace hG1 : BB ≤ g1 := by omega
              have ne81 : g8 ≠ g1 := by omega
              rw [hg1] at hN1 ⊢
              obtain ⟨w1xaaaa, hw1⟩ : ∃ V, World.alloc w6xaa (.cells #[.slice none 0 0, .slice none 0 0, .slice none 0 0] 49) = V := ⟨_, rfl⟩
              rw [hw1] at hN1 hB hS own8 hN6 ⊢
              clear hw1 hg1 lt8 lt6
              refine wpAnyH_ready (rs := [7]) (by kernel_rfl) (by simp) ?_
              refine (AllReadyH.cons (o := { dst := some 66, op := .call { callee := .builtin .append, args := #[.tmp 63, .tmp 65], argTypes := #[38, 38] }, type := 38, pos := "law.go:106", after := #[⟨4, .data⟩, ⟨6, .data⟩, ⟨4, .chain⟩], guard := none }) rfl (fun K hK => ?_) AllReadyH.nil)
              refine step_append_lies _ rfl _ _ 38 rfl BB 26 i0 (.agg #[.bool false, .string ⟨#[]⟩, .string ⟨#[]⟩]) 3 40 Tryz.underlying38 hi hz0 hz1 hz2 rfl (by decide) _ 0 [] rfl own8 ⟨g6, 0, none⟩ 1 1 [.bool gb, .string S1, .string S2] rfl rfl (World.news_of_block hN6) (by simp [Value.oneCell']) Nat.zero_lt_one (by unfold maxLen; omega) (by omega) (Nat.le_trans (Nat.le_of_eq HBB.out.symm) hB.size) _ rfl ?_
              intro g7 c7 w7xaaab hown7 hgrow7 hat7 hlt7
              have b7 : Below BB wd w7xaaab := hB.grown hgrow7 (Nat.le_trans (Nat.le_of_eq HBB.out.symm) hB.size) (fun r hr => (own8.lt r hr).1)
              have own7 := hown7
              have lt1 := (Array.getElem?_eq_some_iff.1 hN1).1
              have ne71 : g7 ≠ g1 := by
                rcases hat7 with h | h
                · injection (show some g8 = some g7 from h) with h; omega
                · omega
              replace hN1 := (hgrow7.block g1 lt1 (fun e => by injection (show some g1 = some g8 from e) with e; omega)).trans hN1
              clear lt1
              replace hB := b7
              have hS2 := hB
              clear hS b7 hown7 hgrow7 hat7 hlt7 own8 hN6
              refine hK.out _ _ hS2 (fun hS => ?_)
              clear hK K hS2
              refine wpAnyH_take (i := 8) (v := ?vxaaab8) rfl (by kernel_rfl) (by kernel_rfl) (by kernel_rfl) (fun _ _ _ h => h) (Or.inl ⟨by rfl, ?yxaaab8⟩) hS ?rxaaab8
              case yxaaab8 => (intro w hS; go_simp; try with_reducible rfl)
              go_simp
              refine wpAnyH_ready (rs := [10]) (by kernel_rfl) (by simp) ?_
              refine (AllReadyH.cons (o := { dst := none, op := .store 49 (.tmp 10) (.tmp 67), type := 0, pos := "law.go:106", after := #[⟨9, .data⟩, ⟨8, .data⟩, ⟨7, .chain⟩, ⟨0, .phase⟩, ⟨1, .phase⟩, ⟨2, .phase⟩, ⟨3, .phase⟩, ⟨4, .phase⟩, ⟨5, .phase⟩, ⟨6, .phase⟩, ⟨7, .phase⟩, ⟨8, .phase⟩, ⟨9, .phase⟩], guard := none }) rfl (fun K hK => ?_) AllReadyH.nil)
              rw [if_pos (by rfl)]
              refine wp_store_row 49 (.tmp 10) (.tmp 67) rfl g1 (#[.slice pa 0 ca, .slice none 0 0, .slice (some ⟨g7, 0, none⟩) (0 + 1) c7]) (by first | rfl | (simp [Act.eval])) (by first | rfl | (simp [Act.eval])) 49 #[.slice none 0 0, .slice none 0 0, .slice none 0 0] hN1 (by kernel_rfl) (by simp) (by simp [Value.oneCell']) ?_
              replace hB := Below.setRow' hB hG1 (#[.slice pa 0 ca, .slice none 0 0, .slice (some ⟨g7, 0, none⟩) (0 + 1) c7])
              have hS2 := hB
              have hrow2 := setRow_heap _ _ _ (#[.slice pa 0 ca, .slice none 0 0, .slice (some ⟨g7, 0, none⟩) (0 + 1) c7]) _ _ hN1
              replace own7 := own_rowne own7 g1 (#[.slice pa 0 ca, .slice none 0 0, .slice (some ⟨g7, 0, none⟩) (0 + 1) c7]) ne71
              clear hS
              refine hK.out _ _ hS2 (fun hS => ?_)
              clear hK K hS2
              refine wpAnyH_done (by kernel_rfl) ?_ _
              go_wp2_with fail
              go_meet
              exact ⟨g1, some ⟨g7, 0, none⟩, c7, rfl, Lib.hid ⟨LWB.out.trans (hB.mono (Nat.le_trans LWB.out.size (Nat.le_of_eq HBB.out))), hrow2, own_LV (by first | (rw [List.length_append, List.length_map, HQ.out.2.2, flr_app]; exact own7) | exact own7)⟩⟩
          · go_simp
            have hN1 := heap_alloc_new w8x (.cells #[.slice none 0 0, .slice none 0 0, .slice none 0 0] 49)
            have hG1 : BB ≤ w8x.heap.size := Nat.le_trans (Nat.le_of_eq HBB.out.symm) hB.size
            have bA := (Below.refl w8x.heap.size w8x).alloc (Nat.le_refl _) (.cells #[.slice none 0 0, .slice none 0 0, .slice none 0 0] 49)
            have lt8 := own_lt own8
            replace own8 := own_stay own8 bA
            replace hB := hB.trans (bA.mono (Nat.le_trans (Nat.le_of_eq HBB.out.symm) hB.size))
            have hS2 := hB
            clear hS bA
            refine hK.out _ _ hS2 (fun hS => ?_)
            clear hK K hS2
            obtain ⟨g1, hg1⟩ : ∃ g, w8x.heap.size = g := ⟨_, rfl⟩
            replace hG1 : BB ≤ g1 := by omega
            have ne81 : g8 ≠ g1 := by omega
            rw [hg1] at hN1 ⊢
            obtain ⟨w1xaaab, hw1⟩ : ∃ V, World.alloc w8x (.cells #[.slice none 0 0, .slice none 0 0, .slice none 0 0] 49) = V := ⟨_, rfl⟩
            rw [hw1] at hN1 hB hS own8 ⊢
            clear hw1 hg1 lt8
            refine wpAnyH_ready (rs := [6]) (by kernel_rfl) (by simp) ?_
            refine (AllReadyH.cons (o := { dst := some 65, op := .buildSlice 38 1 #[(0, .tmp 64)], type := 38, pos := "law.go:106", after := #[⟨5, .data⟩], guard := none }) rfl (fun K hK => ?_) AllReadyH.nil)
            go_simp
            have hN6 := heap_alloc_new w1xaaab (.cells #[.bool gb, .string S1, .string S2] 26)
            have hG6 : BB ≤ w1xaaab.heap.size := Nat.le_trans (Nat.le_of_eq HBB.out.symm) hB.size
            have bA := (Below.refl w1xaaab.heap.size w1xaaab).alloc (Nat.le_refl _) (.cells #[.bool gb, .string S1, .string S2] 26)
            have lt8 := own_lt own8
            replace own8 := own_stay own8 bA
            have lt1 := (Array.getElem?_eq_some_iff.1 hN1).1
            replace hN1 := (bA.block _ lt1).trans hN1
            replace hB := hB.trans (bA.mono (Nat.le_trans (Nat.le_of_eq HBB.out.symm) hB.size))
            have hS2 := hB
            clear hS bA
            refine hK.out _ _ hS2 (fun hS => ?_)
            clear hK K hS2
            obtain ⟨g6, hg6⟩ : ∃ g, w1xaaab.heap.size = g := ⟨_, rfl⟩
            replace hG6 : BB ≤ g6 := by omega
            have ne86 : g8 ≠ g6 := by omega
            rw [hg6] at hN6 ⊢
            obtain ⟨w6xaab, hw6⟩ : ∃ V, World.alloc w1xaaab (.cells #[.bool gb, .string S1, .string S2] 26) = V := ⟨_, rfl⟩
            rw [hw6] at hN6 hB hS own8 hN1 ⊢
            clear hw6 hg6 lt8 lt1
            refine wpAnyH_ready (rs := [7]) (by kernel_rfl) (by simp) ?_
            refine (AllReadyH.cons (o := { dst := some 66, op := .call { callee := .builtin .append, args := #[.tmp 63, .tmp 65], argTypes := #[38, 38] }, type := 38, pos := "law.go:106", after := #[⟨4, .data⟩, ⟨6, .data⟩, ⟨4, .chain⟩], guard := none }) rfl (fun K hK => ?_) AllReadyH.nil)
            refine step_append_lies _ rfl _ _ 38 rfl BB 26 i0 (.agg #[.bool false, .string ⟨#[]⟩, .string ⟨#[]⟩]) 3 40 Tryz.underlying38 hi hz0 hz1 hz2 rfl (by decide) _ 0 [] rfl own8 ⟨g6, 0, none⟩ 1 1 [.bool gb, .string S1, .string S2] rfl rfl (World.news_of_block hN6) (by simp [Value.oneCell']) Nat.zero_lt_one (by unfold maxLen; omega) (by omega) (Nat.le_trans (Nat.le_of_eq HBB.out.symm) hB.size) _ rfl ?_
            intro g7 c7 w7xaab hown7 hgrow7 hat7 hlt7
            have b7 : Below BB wd w7xaab := hB.grown hgrow7 (Nat.le_trans (Nat.le_of_eq HBB.out.symm) hB.size) (fun r hr => (own8.lt r hr).1)
            have own7 := hown7
            have lt1 := (Array.getElem?_eq_some_iff.1 hN1).1
            have ne71 : g7 ≠ g1 := by
              rcases hat7 with h | h
              · injection (show some g8 = some g7 from h) with h; omega
              · omega
            replace hN1 := (hgrow7.block g1 lt1 (fun e => by injection (show some g1 = some g8 from e) with e; omega)).trans hN1
            clear lt1
            replace hB := b7
            have hS2 := hB
            clear hS b7 hown7 hgrow7 hat7 hlt7 own8 hN6
            refine hK.out _ _ hS2 (fun hS => ?_)
            clear hK K hS2
            refine wpAnyH_take (i := 8) (v := ?vxaab8) rfl (by kernel_rfl) (by kernel_rfl) (by kernel_rfl) (fun _ _ _ h => h) (Or.inl ⟨by rfl, ?yxaab8⟩) hS ?rxaab8
            case yxaab8 => (intro w hS; go_simp; try with_reducible rfl)
            go_simp
            refine wpAnyH_ready (rs := [10]) (by kernel_rfl) (by simp) ?_
            refine (AllReadyH.cons (o := { dst := none, op := .store 49 (.tmp 10) (.tmp 67), type := 0, pos := "law.go:106", after := #[⟨9, .data⟩, ⟨8, .data⟩, ⟨7, .chain⟩, ⟨0, .phase⟩, ⟨1, .phase⟩, ⟨2, .phase⟩, ⟨3, .phase⟩, ⟨4, .phase⟩, ⟨5, .phase⟩, ⟨6, .phase⟩, ⟨7, .phase⟩, ⟨8, .phase⟩, ⟨9, .phase⟩], guard := none }) rfl (fun K hK => ?_) AllReadyH.nil)
            rw [if_pos (by rfl)]
            refine wp_store_row 49 (.tmp 10) (.tmp 67) rfl g1 (#[.slice pa 0 ca, .slice none 0 0, .slice (some ⟨g7, 0, none⟩) (0 + 1) c7]) (by first | rfl | (simp [Act.eval])) (by first | rfl | (simp [Act.eval])) 49 #[.slice none 0 0, .slice none 0 0, .slice none 0 0] hN1 (by kernel_rfl) (by simp) (by simp [Value.oneCell']) ?_
            replace hB := Below.setRow' hB hG1 (#[.slice pa 0 ca, .slice none 0 0, .slice (some ⟨g7, 0, none⟩) (0 + 1) c7])
            have hS2 := hB
            have hrow2 := setRow_heap _ _ _ (#[.slice pa 0 ca, .slice none 0 0, .slice (some ⟨g7, 0, none⟩) (0 + 1) c7]) _ _ hN1
            replace own7 := own_rowne own7 g1 (#[.slice pa 0 ca, .slice none 0 0, .slice (some ⟨g7, 0, none⟩) (0 + 1) c7]) ne71
            clear hS
            refine hK.out _ _ hS2 (fun hS => ?_)
            clear hK K hS2
            refine wpAnyH_done (by kernel_rfl) ?_ _
            go_wp2_with fail
            go_meet
            exact ⟨g1, some ⟨g7, 0, none⟩, c7, rfl, Lib.hid ⟨LWB.out.trans (hB.mono (Nat.le_trans LWB.out.size (Nat.le_of_eq HBB.out))), hrow2, own_LV (by first | (rw [List.length_append, List.length_map, HQ.out.2.2, flr_app]; exact own7) | exact own7)⟩⟩
        · go_simp
          have hN6 := heap_alloc_new w8x (.cells #[.bool gb, .string S1, .string S2] 26)
          have hG6 : BB ≤ w8x.heap.size := Nat.le_trans (Nat.le_of_eq HBB.out.symm) hB.size
          have bA := (Below.refl w8x.heap.size w8x).alloc (Nat.le_refl _) (.cells #[.bool gb, .string S1, .string S2] 26)
          have lt8 := own_lt own8
          replace own8 := own_stay own8 bA
          replace hB := hB.trans (bA.mono (Nat.le_trans (Nat.le_of_eq HBB.out.symm) hB.size))
          have hS2 := hB
          clear hS bA
          refine hK.out _ _ hS2 (fun hS => ?_)
          clear hK K hS2
          obtain ⟨g6, hg6⟩ : ∃ g, w8x.heap.size = g := ⟨_, rfl⟩
          replace hG6 : BB ≤ g6 := by omega
          have ne86 : g8 ≠ g6 := by omega
          rw [hg6] at hN6 ⊢
          obtain ⟨w6xaab, hw6⟩ : ∃ V, World.alloc w8x (.cells #[.bool gb, .string S1, .string S2] 26) = V := ⟨_, rfl⟩
          rw [hw6] at hN6 hB hS own8 ⊢
          clear hw6 hg6 lt8
          refine wpAnyH_ready (rs := [4, 9]) (by kernel_rfl) (by simp) ?_
          refine (AllReadyH.cons (o := { dst := some 63, op := .call { callee := .builtin .append, args := #[.tmp 61, .tmp 62], argTypes := #[38, 38] }, type := 38, pos := "law.go:106", after := #[⟨2, .data⟩, ⟨3, .data⟩], guard := none }) rfl (fun K hK => ?_) (AllReadyH.cons (o := { dst := some 10, op := .alloc 49, type := 0, pos := "law.go:106", after := #[], guard := none }) rfl (fun K hK => ?_) AllReadyH.nil))
          · have hr := run_append_owned_none (P := Tryz.prog) (w := w6xaab) BB 38 38 26 i0 3 Tryz.underlying38 hi _ 0 [] own8
            go_simp
            clear hr
            refine hK.out _ _ hS (fun hS => ?_)
            clear hK K
            refine wpAnyH_ready (rs := [7, 9]) (by kernel_rfl) (by simp) ?_
            refine (AllReadyH.cons (o := { dst := some 66, op := .call { callee := .builtin .append, args := #[.tmp 63, .tmp 65], argTypes := #[38, 38] }, type := 38, pos := "law.go:106", after := #[⟨4, .data⟩, ⟨6, .data⟩, ⟨4, .chain⟩], guard := none }) rfl (fun K hK => ?_) (AllReadyH.cons (o := { dst := some 10, op := .alloc 49, type := 0, pos := "law.go:106", after := #[], guard := none }) rfl (fun K hK => ?_) AllReadyH.nil))
            · refine step_append_lies _ rfl _ _ 38 rfl BB 26 i0 (.agg #[.bool false, .string ⟨#[]⟩, .string ⟨#[]⟩]) 3 40 Tryz.underlying38 hi hz0 hz1 hz2 rfl (by decide) _ 0 [] rfl own8 ⟨g6, 0, none⟩ 1 1 [.bool gb, .string S1, .string S2] rfl rfl (World.news_of_block hN6) (by simp [Value.oneCell']) Nat.zero_lt_one (by unfold maxLen; omega) (by omega) (Nat.le_trans (Nat.le_of_eq HBB.out.symm) hB.size) _ rfl ?_
              intro g7 c7 w7xaba hown7 hgrow7 hat7 hlt7
              have b7 : Below BB wd w7xaba := hB.grown hgrow7 (Nat.le_trans (Nat.le_of_eq HBB.out.symm) hB.size) (fun r hr => (own8.lt r hr).1)
              have own7 := hown7
              replace hB := b7
              have hS2 := hB
              clear hS b7 hown7 hgrow7 hat7 hlt7 own8 hN6
              refine hK.out _ _ hS2 (fun hS => ?_)
              clear hK K hS2
              refine wpAnyH_take (i := 8) (v := ?vxabaa8) rfl (by kernel_rfl) (by kernel_rfl) (by kernel_rfl) (fun _ _ _ h => h) (Or.inl ⟨by rfl, ?yxabaa8⟩) hS ?rxabaa8
              case yxabaa8 => (intro w hS; go_simp; try with_reducible rfl)
              go_simp
              refine wpAnyH_ready (rs := [9]) (by kernel_rfl) (by simp) ?_
              refine (AllReadyH.cons (o := { dst := some 10, op := .alloc 49, type := 0, pos := "law.go:106", after := #[], guard := none }) rfl (fun K hK => ?_) AllReadyH.nil)
              go_simp
              have hN1 := heap_alloc_new w7xaba (.cells #[.slice none 0 0, .slice none 0 0, .slice none 0 0] 49)
              have hG1 : BB ≤ w7xaba.heap.size := Nat.le_trans (Nat.le_of_eq HBB.out.symm) hB.size
              have bA := (Below.refl w7xaba.heap.size w7xaba).alloc (Nat.le_refl _) (.cells #[.slice none 0 0, .slice none 0 0, .slice none 0 0] 49)
              have lt7 := own_lt own7
              replace own7 := own_stay own7 bA
              replace hB := hB.trans (bA.mono (Nat.le_trans (Nat.le_of_eq HBB.out.symm) hB.size))
              have hS2 := hB
              clear hS bA
              refine hK.out _ _ hS2 (fun hS => ?_)
              clear hK K hS2
              obtain ⟨g1, hg1⟩ : ∃ g, w7xaba.heap.size = g := ⟨_, rfl⟩
              replace hG1 : BB ≤ g1 := by omega
              have ne71 : g7 ≠ g1 := by omega
              rw [hg1] at hN1 ⊢
              obtain ⟨w1xabaa, hw1⟩ : ∃ V, World.alloc w7xaba (.cells #[.slice none 0 0, .slice none 0 0, .slice none 0 0] 49) = V := ⟨_, rfl⟩
              rw [hw1] at hN1 hB hS own7 ⊢
              clear hw1 hg1 lt7
              refine wpAnyH_ready (rs := [10]) (by kernel_rfl) (by simp) ?_
              refine (AllReadyH.cons (o := { dst := none, op := .store 49 (.tmp 10) (.tmp 67), type := 0, pos := "law.go:106", after := #[⟨9, .data⟩, ⟨8, .data⟩, ⟨7, .chain⟩, ⟨0, .phase⟩, ⟨1, .phase⟩, ⟨2, .phase⟩, ⟨3, .phase⟩, ⟨4, .phase⟩, ⟨5, .phase⟩, ⟨6, .phase⟩, ⟨7, .phase⟩, ⟨8, .phase⟩, ⟨9, .phase⟩], guard := none }) rfl (fun K hK => ?_) AllReadyH.nil)
              rw [if_pos (by rfl)]
              refine wp_store_row 49 (.tmp 10) (.tmp 67) rfl g1 (#[.slice pa 0 ca, .slice none 0 0, .slice (some ⟨g7, 0, none⟩) (0 + 1) c7]) (by first | rfl | (simp [Act.eval])) (by first | rfl | (simp [Act.eval])) 49 #[.slice none 0 0, .slice none 0 0, .slice none 0 0] hN1 (by kernel_rfl) (by simp) (by simp [Value.oneCell']) ?_
              replace hB := Below.setRow' hB hG1 (#[.slice pa 0 ca, .slice none 0 0, .slice (some ⟨g7, 0, none⟩) (0 + 1) c7])
              have hS2 := hB
              have hrow2 := setRow_heap _ _ _ (#[.slice pa 0 ca, .slice none 0 0, .slice (some ⟨g7, 0, none⟩) (0 + 1) c7]) _ _ hN1
              replace own7 := own_rowne own7 g1 (#[.slice pa 0 ca, .slice none 0 0, .slice (some ⟨g7, 0, none⟩) (0 + 1) c7]) ne71
              clear hS
              refine hK.out _ _ hS2 (fun hS => ?_)
              clear hK K hS2
              refine wpAnyH_done (by kernel_rfl) ?_ _
              go_wp2_with fail
              go_meet
              exact ⟨g1, some ⟨g7, 0, none⟩, c7, rfl, Lib.hid ⟨LWB.out.trans (hB.mono (Nat.le_trans LWB.out.size (Nat.le_of_eq HBB.out))), hrow2, own_LV (by first | (rw [List.length_append, List.length_map, HQ.out.2.2, flr_app]; exact own7) | exact own7)⟩⟩
            · go_simp
              have hN1 := heap_alloc_new w6xaab (.cells #[.slice none 0 0, .slice none 0 0, .slice none 0 0] 49)
              have hG1 : BB ≤ w6xaab.heap.size := Nat.le_trans (Nat.le_of_eq HBB.out.symm) hB.size
              have bA := (Below.refl w6xaab.heap.size w6xaab).alloc (Nat.le_refl _) (.cells #[.slice none 0 0, .slice none 0 0, .slice none 0 0] 49)
              have lt8 := own_lt own8
              replace own8 := own_stay own8 bA
              have lt6 := (Array.getElem?_eq_some_iff.1 hN6).1
              replace hN6 := (bA.block _ lt6).trans hN6
              replace hB := hB.trans (bA.mono (Nat.le_trans (Nat.le_of_eq HBB.out.symm) hB.size))
              have hS2 := hB
              clear hS bA
              refine hK.out _ _ hS2 (fun hS => ?_)
              clear hK K hS2
              obtain ⟨g1, hg1⟩ : ∃ g, w6xaab.heap.size = g := ⟨_, rfl⟩
              replace hG1 : BB ≤ g1 := by omega
              have ne81 : g8 ≠ g1 := by omega
              rw [hg1] at hN1 ⊢
              obtain ⟨w1xabaa, hw1⟩ : ∃ V, World.alloc w6xaab (.cells #[.slice none 0 0, .slice none 0 0, .slice none 0 0] 49) = V := ⟨_, rfl⟩
              rw [hw1] at hN1 hB hS own8 hN6 ⊢
              clear hw1 hg1 lt8 lt6
              refine wpAnyH_ready (rs := [7]) (by kernel_rfl) (by simp) ?_
              refine (AllReadyH.cons (o := { dst := some 66, op := .call { callee := .builtin .append, args := #[.tmp 63, .tmp 65], argTypes := #[38, 38] }, type := 38, pos := "law.go:106", after := #[⟨4, .data⟩, ⟨6, .data⟩, ⟨4, .chain⟩], guard := none }) rfl (fun K hK => ?_) AllReadyH.nil)
              refine step_append_lies _ rfl _ _ 38 rfl BB 26 i0 (.agg #[.bool false, .string ⟨#[]⟩, .string ⟨#[]⟩]) 3 40 Tryz.underlying38 hi hz0 hz1 hz2 rfl (by decide) _ 0 [] rfl own8 ⟨g6, 0, none⟩ 1 1 [.bool gb, .string S1, .string S2] rfl rfl (World.news_of_block hN6) (by simp [Value.oneCell']) Nat.zero_lt_one (by unfold maxLen; omega) (by omega) (Nat.le_trans (Nat.le_of_eq HBB.out.symm) hB.size) _ rfl ?_
              intro g7 c7 w7xabab hown7 hgrow7 hat7 hlt7
              have b7 : Below BB wd w7xabab := hB.grown hgrow7 (Nat.le_trans (Nat.le_of_eq HBB.out.symm) hB.size) (fun r hr => (own8.lt r hr).1)
              have own7 := hown7
              have lt1 := (Array.getElem?_eq_some_iff.1 hN1).1
              have ne71 : g7 ≠ g1 := by
                rcases hat7 with h | h
                · injection (show some g8 = some g7 from h) with h; omega
                · omega
              replace hN1 := (hgrow7.block g1 lt1 (fun e => by injection (show some g1 = some g8 from e) with e; omega)).trans hN1
              clear lt1
              replace hB := b7
              have hS2 := hB
              clear hS b7 hown7 hgrow7 hat7 hlt7 own8 hN6
              refine hK.out _ _ hS2 (fun hS => ?_)
              clear hK K hS2
              refine wpAnyH_take (i := 8) (v := ?vxabab8) rfl (by kernel_rfl) (by kernel_rfl) (by kernel_rfl) (fun _ _ _ h => h) (Or.inl ⟨by rfl, ?yxabab8⟩) hS ?rxabab8
              case yxabab8 => (intro w hS; go_simp; try with_reducible rfl)
              go_simp
              refine wpAnyH_ready (rs := [10]) (by kernel_rfl) (by simp) ?_
              refine (AllReadyH.cons (o := { dst := none, op := .store 49 (.tmp 10) (.tmp 67), type := 0, pos := "law.go:106", after := #[⟨9, .data⟩, ⟨8, .data⟩, ⟨7, .chain⟩, ⟨0, .phase⟩, ⟨1, .phase⟩, ⟨2, .phase⟩, ⟨3, .phase⟩, ⟨4, .phase⟩, ⟨5, .phase⟩, ⟨6, .phase⟩, ⟨7, .phase⟩, ⟨8, .phase⟩, ⟨9, .phase⟩], guard := none }) rfl (fun K hK => ?_) AllReadyH.nil)
              rw [if_pos (by rfl)]
              refine wp_store_row 49 (.tmp 10) (.tmp 67) rfl g1 (#[.slice pa 0 ca, .slice none 0 0, .slice (some ⟨g7, 0, none⟩) (0 + 1) c7]) (by first | rfl | (simp [Act.eval])) (by first | rfl | (simp [Act.eval])) 49 #[.slice none 0 0, .slice none 0 0, .slice none 0 0] hN1 (by kernel_rfl) (by simp) (by simp [Value.oneCell']) ?_
              replace hB := Below.setRow' hB hG1 (#[.slice pa 0 ca, .slice none 0 0, .slice (some ⟨g7, 0, none⟩) (0 + 1) c7])
              have hS2 := hB
              have hrow2 := setRow_heap _ _ _ (#[.slice pa 0 ca, .slice none 0 0, .slice (some ⟨g7, 0, none⟩) (0 + 1) c7]) _ _ hN1
              replace own7 := own_rowne own7 g1 (#[.slice pa 0 ca, .slice none 0 0, .slice (some ⟨g7, 0, none⟩) (0 + 1) c7]) ne71
              clear hS
              refine hK.out _ _ hS2 (fun hS => ?_)
              clear hK K hS2
              refine wpAnyH_done (by kernel_rfl) ?_ _
              go_wp2_with fail
              go_meet
              exact ⟨g1, some ⟨g7, 0, none⟩, c7, rfl, Lib.hid ⟨LWB.out.trans (hB.mono (Nat.le_trans LWB.out.size (Nat.le_of_eq HBB.out))), hrow2, own_LV (by first | (rw [List.length_append, List.length_map, HQ.out.2.2, flr_app]; exact own7) | exact own7)⟩⟩
          · go_simp
            have hN1 := heap_alloc_new w6xaab (.cells #[.slice none 0 0, .slice none 0 0, .slice none 0 0] 49)
            have hG1 : BB ≤ w6xaab.heap.size := Nat.le_trans (Nat.le_of_eq HBB.out.symm) hB.size
            have bA := (Below.refl w6xaab.heap.size w6xaab).alloc (Nat.le_refl _) (.cells #[.slice none 0 0, .slice none 0 0, .slice none 0 0] 49)
            have lt8 := own_lt own8
            replace own8 := own_stay own8 bA
            have lt6 := (Array.getElem?_eq_some_iff.1 hN6).1
            replace hN6 := (bA.block _ lt6).trans hN6
            replace hB := hB.trans (bA.mono (Nat.le_trans (Nat.le_of_eq HBB.out.symm) hB.size))
            have hS2 := hB
            clear hS bA
            refine hK.out _ _ hS2 (fun hS => ?_)
            clear hK K hS2
            obtain ⟨g1, hg1⟩ : ∃ g, w6xaab.heap.size = g := ⟨_, rfl⟩
            replace hG1 : BB ≤ g1 := by omega
            have ne81 : g8 ≠ g1 := by omega
            rw [hg1] at hN1 ⊢
            obtain ⟨w1xabab, hw1⟩ : ∃ V, World.alloc w6xaab (.cells #[.slice none 0 0, .slice none 0 0, .slice none 0 0] 49) = V := ⟨_, rfl⟩
            rw [hw1] at hN1 hB hS own8 hN6 ⊢
            clear hw1 hg1 lt8 lt6
            refine wpAnyH_ready (rs := [4]) (by kernel_rfl) (by simp) ?_
            refine (AllReadyH.cons (o := { dst := some 63, op := .call { callee := .builtin .append, args := #[.tmp 61, .tmp 62], argTypes := #[38, 38] }, type := 38, pos := "law.go:106", after := #[⟨2, .data⟩, ⟨3, .data⟩], guard := none }) rfl (fun K hK => ?_) AllReadyH.nil)
            have hr := run_append_owned_none (P := Tryz.prog) (w := w1xabab) BB 38 38 26 i0 3 Tryz.underlying38 hi _ 0 [] own8
            go_simp
            clear hr
            refine hK.out _ _ hS (fun hS => ?_)
            clear hK K
            refine wpAnyH_ready (rs := [7]) (by kernel_rfl) (by simp) ?_
            refine (AllReadyH.cons (o := { dst := some 66, op := .call { callee := .builtin .append, args := #[.tmp 63, .tmp 65], argTypes := #[38, 38] }, type := 38, pos := "law.go:106", after := #[⟨4, .data⟩, ⟨6, .data⟩, ⟨4, .chain⟩], guard := none }) rfl (fun K hK => ?_) AllReadyH.nil)
            refine step_append_lies _ rfl _ _ 38 rfl BB 26 i0 (.agg #[.bool false, .string ⟨#[]⟩, .string ⟨#[]⟩]) 3 40 Tryz.underlying38 hi hz0 hz1 hz2 rfl (by decide) _ 0 [] rfl own8 ⟨g6, 0, none⟩ 1 1 [.bool gb, .string S1, .string S2] rfl rfl (World.news_of_block hN6) (by simp [Value.oneCell']) Nat.zero_lt_one (by unfold maxLen; omega) (by omega) (Nat.le_trans (Nat.le_of_eq HBB.out.symm) hB.size) _ rfl ?_
            intro g7 c7 w7xabb hown7 hgrow7 hat7 hlt7
            have b7 : Below BB wd w7xabb := hB.grown hgrow7 (Nat.le_trans (Nat.le_of_eq HBB.out.symm) hB.size) (fun r hr => (own8.lt r hr).1)
            have own7 := hown7
            have lt1 := (Array.getElem?_eq_some_iff.1 hN1).1
            have ne71 : g7 ≠ g1 := by
              rcases hat7 with h | h
              · injection (show some g8 = some g7 from h) with h; omega
              · omega
            replace hN1 := (hgrow7.block g1 lt1 (fun e => by injection (show some g1 = some g8 from e) with e; omega)).trans hN1
            clear lt1
            replace hB := b7
            have hS2 := hB
            clear hS b7 hown7 hgrow7 hat7 hlt7 own8 hN6
            refine hK.out _ _ hS2 (fun hS => ?_)
            clear hK K hS2
            refine wpAnyH_take (i := 8) (v := ?vxabb8) rfl (by kernel_rfl) (by kernel_rfl) (by kernel_rfl) (fun _ _ _ h => h) (Or.inl ⟨by rfl, ?yxabb8⟩) hS ?rxabb8
            case yxabb8 => (intro w hS; go_simp; try with_reducible rfl)
            go_simp
            refine wpAnyH_ready (rs := [10]) (by kernel_rfl) (by simp) ?_
            refine (AllReadyH.cons (o := { dst := none, op := .store 49 (.tmp 10) (.tmp 67), type := 0, pos := "law.go:106", after := #[⟨9, .data⟩, ⟨8, .data⟩, ⟨7, .chain⟩, ⟨0, .phase⟩, ⟨1, .phase⟩, ⟨2, .phase⟩, ⟨3, .phase⟩, ⟨4, .phase⟩, ⟨5, .phase⟩, ⟨6, .phase⟩, ⟨7, .phase⟩, ⟨8, .phase⟩, ⟨9, .phase⟩], guard := none }) rfl (fun K hK => ?_) AllReadyH.nil)
            rw [if_pos (by rfl)]
            refine wp_store_row 49 (.tmp 10) (.tmp 67) rfl g1 (#[.slice pa 0 ca, .slice none 0 0, .slice (some ⟨g7, 0, none⟩) (0 + 1) c7]) (by first | rfl | (simp [Act.eval])) (by first | rfl | (simp [Act.eval])) 49 #[.slice none 0 0, .slice none 0 0, .slice none 0 0] hN1 (by kernel_rfl) (by simp) (by simp [Value.oneCell']) ?_
            replace hB := Below.setRow' hB hG1 (#[.slice pa 0 ca, .slice none 0 0, .slice (some ⟨g7, 0, none⟩) (0 + 1) c7])
            have hS2 := hB
            have hrow2 := setRow_heap _ _ _ (#[.slice pa 0 ca, .slice none 0 0, .slice (some ⟨g7, 0, none⟩) (0 + 1) c7]) _ _ hN1
            replace own7 := own_rowne own7 g1 (#[.slice pa 0 ca, .slice none 0 0, .slice (some ⟨g7, 0, none⟩) (0 + 1) c7]) ne71
            clear hS
            refine hK.out _ _ hS2 (fun hS => ?_)
            clear hK K hS2
            refine wpAnyH_done (by kernel_rfl) ?_ _
            go_wp2_with fail
            go_meet
            exact ⟨g1, some ⟨g7, 0, none⟩, c7, rfl, Lib.hid ⟨LWB.out.trans (hB.mono (Nat.le_trans LWB.out.size (Nat.le_of_eq HBB.out))), hrow2, own_LV (by first | (rw [List.length_append, List.length_map, HQ.out.2.2, flr_app]; exact own7) | exact own7)⟩⟩
        · go_simp
          have hN1 := heap_alloc_new w8x (.cells #[.slice none 0 0, .slice none 0 0, .slice none 0 0] 49)
          have hG1 : BB ≤ w8x.heap.size := Nat.le_trans (Nat.le_of_eq HBB.out.symm) hB.size
          have bA := (Below.refl w8x.heap.size w8x).alloc (Nat.le_refl _) (.cells #[.slice none 0 0, .slice none 0 0, .slice none 0 0] 49)
          have lt8 := own_lt own8
          replace own8 := own_stay own8 bA
          replace hB := hB.trans (bA.mono (Nat.le_trans (Nat.le_of_eq HBB.out.symm) hB.size))
          have hS2 := hB
          clear hS bA
          refine hK.out _ _ hS2 (fun hS => ?_)
          clear hK K hS2
          obtain ⟨g1, hg1⟩ : ∃ g, w8x.heap.size = g := ⟨_, rfl⟩
          replace hG1 : BB ≤ g1 := by omega
          have ne81 : g8 ≠ g1 := by omega
          rw [hg1] at hN1 ⊢
          obtain ⟨w1xabb, hw1⟩ : ∃ V, World.alloc w8x (.cells #[.slice none 0 0, .slice none 0 0, .slice none 0 0] 49) = V := ⟨_, rfl⟩
          rw [hw1] at hN1 hB hS own8 ⊢
          clear hw1 hg1 lt8
          refine wpAnyH_ready (rs := [4, 6]) (by kernel_rfl) (by simp) ?_
          refine (AllReadyH.cons (o := { dst := some 63, op := .call { callee := .builtin .append, args := #[.tmp 61, .tmp 62], argTypes := #[38, 38] }, type := 38, pos := "law.go:106", after := #[⟨2, .data⟩, ⟨3, .data⟩], guard := none }) rfl (fun K hK => ?_) (AllReadyH.cons (o := { dst := some 65, op := .buildSlice 38 1 #[(0, .tmp 64)], type := 38, pos := "law.go:106", after := #[⟨5, .data⟩], guard := none }) rfl (fun K hK => ?_) AllReadyH.nil))
          · have hr := run_append_owned_none (P := Tryz.prog) (w := w1xabb) BB 38 38 26 i0 3 Tryz.underlying38 hi _ 0 [] own8
            go_simp
            clear hr
            refine hK.out _ _ hS (fun hS => ?_)
            clear hK K
            refine wpAnyH_ready (rs := [6]) (by kernel_rfl) (by simp) ?_
            refine (AllReadyH.cons (o := { dst := some 65, op := .buildSlice 38 1 #[(0, .tmp 64)], type := 38, pos := "law.go:106", after := #[⟨5, .data⟩], guard := none }) rfl (fun K hK => ?_) AllReadyH.nil)
            go_simp
            have hN6 := heap_alloc_new w1xabb (.cells #[.bool gb, .string S1, .string S2] 26)
            have hG6 : BB ≤ w1xabb.heap.size := Nat.le_trans (Nat.le_of_eq HBB.out.symm) hB.size
            have bA := (Below.refl w1xabb.heap.size w1xabb).alloc (Nat.le_refl _) (.cells #[.bool gb, .string S1, .string S2] 26)
            have lt8 := own_lt own8
            replace own8 := own_stay own8 bA
            have lt1 := (Array.getElem?_eq_some_iff.1 hN1).1
            replace hN1 := (bA.block _ lt1).trans hN1
            replace hB := hB.trans (bA.mono (Nat.le_trans (Nat.le_of_eq HBB.out.symm) hB.size))
            have hS2 := hB
            clear hS bA
            refine hK.out _ _ hS2 (fun hS => ?_)
            clear hK K hS2
            obtain ⟨g6, hg6⟩ : ∃ g, w1xabb.heap.size = g := ⟨_, rfl⟩
            replace hG6 : BB ≤ g6 := by omega
            have ne86 : g8 ≠ g6 := by omega
            rw [hg6] at hN6 ⊢
            obtain ⟨w6xaca, hw6⟩ : ∃ V, World.alloc w1xabb (.cells #[.bool gb, .string S1, .string S2] 26) = V := ⟨_, rfl⟩
            rw [hw6] at hN6 hB hS own8 hN1 ⊢
            clear hw6 hg6 lt8 lt1
            refine wpAnyH_ready (rs := [7]) (by kernel_rfl) (by simp) ?_
            refine (AllReadyH.cons (o := { dst := some 66, op := .call { callee := .builtin .append, args := #[.tmp 63, .tmp 65], argTypes := #[38, 38] }, type := 38, pos := "law.go:106", after := #[⟨4, .data⟩, ⟨6, .data⟩, ⟨4, .chain⟩], guard := none }) rfl (fun K hK => ?_) AllReadyH.nil)
            refine step_append_lies _ rfl _ _ 38 rfl BB 26 i0 (.agg #[.bool false, .string ⟨#[]⟩, .string ⟨#[]⟩]) 3 40 Tryz.underlying38 hi hz0 hz1 hz2 rfl (by decide) _ 0 [] rfl own8 ⟨g6, 0, none⟩ 1 1 [.bool gb, .string S1, .string S2] rfl rfl (World.news_of_block hN6) (by simp [Value.oneCell']) Nat.zero_lt_one (by unfold maxLen; omega) (by omega) (Nat.le_trans (Nat.le_of_eq HBB.out.symm) hB.size) _ rfl ?_
            intro g7 c7 w7xaca hown7 hgrow7 hat7 hlt7
            have b7 : Below BB wd w7xaca := hB.grown hgrow7 (Nat.le_trans (Nat.le_of_eq HBB.out.symm) hB.size) (fun r hr => (own8.lt r hr).1)
            have own7 := hown7
            have lt1 := (Array.getElem?_eq_some_iff.1 hN1).1
            have ne71 : g7 ≠ g1 := by
              rcases hat7 with h | h
              · injection (show some g8 = some g7 from h) with h; omega
              · omega
            replace hN1 := (hgrow7.block g1 lt1 (fun e => by injection (show some g1 = some g8 from e) with e; omega)).trans hN1
            clear lt1
            replace hB := b7
            have hS2 := hB
            clear hS b7 hown7 hgrow7 hat7 hlt7 own8 hN6
            refine hK.out _ _ hS2 (fun hS => ?_)
            clear hK K hS2
            refine wpAnyH_take (i := 8) (v := ?vxaca8) rfl (by kernel_rfl) (by kernel_rfl) (by kernel_rfl) (fun _ _ _ h => h) (Or.inl ⟨by rfl, ?yxaca8⟩) hS ?rxaca8
            case yxaca8 => (intro w hS; go_simp; try with_reducible rfl)
            go_simp
            refine wpAnyH_ready (rs := [10]) (by kernel_rfl) (by simp) ?_
            refine (AllReadyH.cons (o := { dst := none, op := .store 49 (.tmp 10) (.tmp 67), type := 0, pos := "law.go:106", after := #[⟨9, .data⟩, ⟨8, .data⟩, ⟨7, .chain⟩, ⟨0, .phase⟩, ⟨1, .phase⟩, ⟨2, .phase⟩, ⟨3, .phase⟩, ⟨4, .phase⟩, ⟨5, .phase⟩, ⟨6, .phase⟩, ⟨7, .phase⟩, ⟨8, .phase⟩, ⟨9, .phase⟩], guard := none }) rfl (fun K hK => ?_) AllReadyH.nil)
            rw [if_pos (by rfl)]
            refine wp_store_row 49 (.tmp 10) (.tmp 67) rfl g1 (#[.slice pa 0 ca, .slice none 0 0, .slice (some ⟨g7, 0, none⟩) (0 + 1) c7]) (by first | rfl | (simp [Act.eval])) (by first | rfl | (simp [Act.eval])) 49 #[.slice none 0 0, .slice none 0 0, .slice none 0 0] hN1 (by kernel_rfl) (by simp) (by simp [Value.oneCell']) ?_
            replace hB := Below.setRow' hB hG1 (#[.slice pa 0 ca, .slice none 0 0, .slice (some ⟨g7, 0, none⟩) (0 + 1) c7])
            have hS2 := hB
            have hrow2 := setRow_heap _ _ _ (#[.slice pa 0 ca, .slice none 0 0, .slice (some ⟨g7, 0, none⟩) (0 + 1) c7]) _ _ hN1
            replace own7 := own_rowne own7 g1 (#[.slice pa 0 ca, .slice none 0 0, .slice (some ⟨g7, 0, none⟩) (0 + 1) c7]) ne71
            clear hS
            refine hK.out _ _ hS2 (fun hS => ?_)
            clear hK K hS2
            refine wpAnyH_done (by kernel_rfl) ?_ _
            go_wp2_with fail
            go_meet
            exact ⟨g1, some ⟨g7, 0, none⟩, c7, rfl, Lib.hid ⟨LWB.out.trans (hB.mono (Nat.le_trans LWB.out.size (Nat.le_of_eq HBB.out))), hrow2, own_LV (by first | (rw [List.length_append, List.length_map, HQ.out.2.2, flr_app]; exact own7) | exact own7)⟩⟩
          · go_simp
            have hN6 := heap_alloc_new w1xabb (.cells #[.bool gb, .string S1, .string S2] 26)
            have hG6 : BB ≤ w1xabb.heap.size := Nat.le_trans (Nat.le_of_eq HBB.out.symm) hB.size
            have bA := (Below.refl w1xabb.heap.size w1xabb).alloc (Nat.le_refl _) (.cells #[.bool gb, .string S1, .string S2] 26)
            have lt8 := own_lt own8
            replace own8 := own_stay own8 bA
            have lt1 := (Array.getElem?_eq_some_iff.1 hN1).1
            replace hN1 := (bA.block _ lt1).trans hN1
            replace hB := hB.trans (bA.mono (Nat.le_trans (Nat.le_of_eq HBB.out.symm) hB.size))
            have hS2 := hB
            clear hS bA
            refine hK.out _ _ hS2 (fun hS => ?_)
            clear hK K hS2
            obtain ⟨g6, hg6⟩ : ∃ g, w1xabb.heap.size = g := ⟨_, rfl⟩
            replace hG6 : BB ≤ g6 := by omega
            have ne86 : g8 ≠ g6 := by omega
            rw [hg6] at hN6 ⊢
            obtain ⟨w6xaca, hw6⟩ : ∃ V, World.alloc w1xabb (.cells #[.bool gb, .string S1, .string S2] 26) = V := ⟨_, rfl⟩
            rw [hw6] at hN6 hB hS own8 hN1 ⊢
            clear hw6 hg6 lt8 lt1
            refine wpAnyH_ready (rs := [4]) (by kernel_rfl) (by simp) ?_
            refine (AllReadyH.cons (o := { dst := some 63, op := .call { callee := .builtin .append, args := #[.tmp 61, .tmp 62], argTypes := #[38, 38] }, type := 38, pos := "law.go:106", after := #[⟨2, .data⟩, ⟨3, .data⟩], guard := none }) rfl (fun K hK => ?_) AllReadyH.nil)
            have hr := run_append_owned_none (P := Tryz.prog) (w := w6xaca) BB 38 38 26 i0 3 Tryz.underlying38 hi _ 0 [] own8
            go_simp
            clear hr
            refine hK.out _ _ hS (fun hS => ?_)
            clear hK K
            refine wpAnyH_ready (rs := [7]) (by kernel_rfl) (by simp) ?_
            refine (AllReadyH.cons (o := { dst := some 66, op := .call { callee := .builtin .append, args := #[.tmp 63, .tmp 65], argTypes := #[38, 38] }, type := 38, pos := "law.go:106", after := #[⟨4, .data⟩, ⟨6, .data⟩, ⟨4, .chain⟩], guard := none }) rfl (fun K hK => ?_) AllReadyH.nil)
            refine step_append_lies _ rfl _ _ 38 rfl BB 26 i0 (.agg #[.bool false, .string ⟨#[]⟩, .string ⟨#[]⟩]) 3 40 Tryz.underlying38 hi hz0 hz1 hz2 rfl (by decide) _ 0 [] rfl own8 ⟨g6, 0, none⟩ 1 1 [.bool gb, .string S1, .string S2] rfl rfl (World.news_of_block hN6) (by simp [Value.oneCell']) Nat.zero_lt_one (by unfold maxLen; omega) (by omega) (Nat.le_trans (Nat.le_of_eq HBB.out.symm) hB.size) _ rfl ?_
            intro g7 c7 w7xacb hown7 hgrow7 hat7 hlt7
            have b7 : Below BB wd w7xacb := hB.grown hgrow7 (Nat.le_trans (Nat.le_of_eq HBB.out.symm) hB.size) (fun r hr => (own8.lt r hr).1)
            have own7 := hown7
            have lt1 := (Array.getElem?_eq_some_iff.1 hN1).1
            have ne71 : g7 ≠ g1 := by
              rcases hat7 with h | h
              · injection (show some g8 = some g7 from h) with h; omega
              · omega
            replace hN1 := (hgrow7.block g1 lt1 (fun e => by injection (show some g1 = some g8 from e) with e; omega)).trans hN1
            clear lt1
            replace hB := b7
            have hS2 := hB
            clear hS b7 hown7 hgrow7 hat7 hlt7 own8 hN6
            refine hK.out _ _ hS2 (fun hS => ?_)
            clear hK K hS2
            refine wpAnyH_take (i := 8) (v := ?vxacb8) rfl (by kernel_rfl) (by kernel_rfl) (by kernel_rfl) (fun _ _ _ h => h) (Or.inl ⟨by rfl, ?yxacb8⟩) hS ?rxacb8
            case yxacb8 => (intro w hS; go_simp; try with_reducible rfl)
            go_simp
            refine wpAnyH_ready (rs := [10]) (by kernel_rfl) (by simp) ?_
            refine (AllReadyH.cons (o := { dst := none, op := .store 49 (.tmp 10) (.tmp 67), type := 0, pos := "law.go:106", after := #[⟨9, .data⟩, ⟨8, .data⟩, ⟨7, .chain⟩, ⟨0, .phase⟩, ⟨1, .phase⟩, ⟨2, .phase⟩, ⟨3, .phase⟩, ⟨4, .phase⟩, ⟨5, .phase⟩, ⟨6, .phase⟩, ⟨7, .phase⟩, ⟨8, .phase⟩, ⟨9, .phase⟩], guard := none }) rfl (fun K hK => ?_) AllReadyH.nil)
            rw [if_pos (by rfl)]
            refine wp_store_row 49 (.tmp 10) (.tmp 67) rfl g1 (#[.slice pa 0 ca, .slice none 0 0, .slice (some ⟨g7, 0, none⟩) (0 + 1) c7]) (by first | rfl | (simp [Act.eval])) (by first | rfl | (simp [Act.eval])) 49 #[.slice none 0 0, .slice none 0 0, .slice none 0 0] hN1 (by kernel_rfl) (by simp) (by simp [Value.oneCell']) ?_
            replace hB := Below.setRow' hB hG1 (#[.slice pa 0 ca, .slice none 0 0, .slice (some ⟨g7, 0, none⟩) (0 + 1) c7])
            have hS2 := hB
            have hrow2 := setRow_heap _ _ _ (#[.slice pa 0 ca, .slice none 0 0, .slice (some ⟨g7, 0, none⟩) (0 + 1) c7]) _ _ hN1
            replace own7 := own_rowne own7 g1 (#[.slice pa 0 ca, .slice none 0 0, .slice (some ⟨g7, 0, none⟩) (0 + 1) c7]) ne71
            clear hS
            refine hK.out _ _ hS2 (fun hS => ?_)
            clear hK K hS2
            refine wpAnyH_done (by kernel_rfl) ?_ _
            go_wp2_with fail
            go_meet
            exact ⟨g1, some ⟨g7, 0, none⟩, c7, rfl, Lib.hid ⟨LWB.out.trans (hB.mono (Nat.le_trans LWB.out.size (Nat.le_of_eq HBB.out))), hrow2, own_LV (by first | (rw [List.length_append, List.length_map, HQ.out.2.2, flr_app]; exact own7) | exact own7)⟩⟩
      · go_simp
        have hN6 := heap_alloc_new wd (.cells #[.bool gb, .string S1, .string S2] 26)
        have hG6 : BB ≤ wd.heap.size := Nat.le_trans (Nat.le_of_eq HBB.out.symm) hB.size
        have bA := (Below.refl wd.heap.size wd).alloc (Nat.le_refl _) (.cells #[.bool gb, .string S1, .string S2] 26)
        replace hB := hB.trans (bA.mono (Nat.le_trans (Nat.le_of_eq HBB.out.symm) hB.size))
        have hS2 := hB
        clear hS bA
        refine hK.out _ _ hS2 (fun hS => ?_)
        clear hK K hS2
        obtain ⟨g6, hg6⟩ : ∃ g, wd.heap.size = g := ⟨_, rfl⟩
        replace hG6 : BB ≤ g6 := by omega
        rw [hg6] at hN6 ⊢
        obtain ⟨w6xacb, hw6⟩ : ∃ V, World.alloc wd (.cells #[.bool gb, .string S1, .string S2] 26) = V := ⟨_, rfl⟩
        rw [hw6] at hN6 hB hS  ⊢
        clear hw6 hg6 
        refine wpAnyH_ready (rs := [2, 9]) (by kernel_rfl) (by simp) ?_
        refine (AllReadyH.cons (o := { dst := some 61, op := .buildSlice 38 0 #[], type := 38, pos := "law.go:106", after := #[], guard := none }) rfl (fun K hK => ?_) (AllReadyH.cons (o := { dst := some 10, op := .alloc 49, type := 0, pos := "law.go:106", after := #[], guard := none }) rfl (fun K hK => ?_) AllReadyH.nil))
        · go_simp
          have own8 := own_emptyR w6xacb BB (Nat.le_trans (Nat.le_of_eq HBB.out.symm) hB.size)
          have hG8 : BB ≤ w6xacb.heap.size := Nat.le_trans (Nat.le_of_eq HBB.out.symm) hB.size
          have bA := (Below.refl w6xacb.heap.size w6xacb).alloc (Nat.le_refl _) (.cells #[] 26)
          have lt6 := (Array.getElem?_eq_some_iff.1 hN6).1
          replace hN6 := (bA.block _ lt6).trans hN6
          replace hB := hB.trans (bA.mono (Nat.le_trans (Nat.le_of_eq HBB.out.symm) hB.size))
          have hS2 := hB
          clear hS bA
          refine hK.out _ _ hS2 (fun hS => ?_)
          clear hK K hS2
          obtain ⟨g8, hg8⟩ : ∃ g, w6xacb.heap.size = g := ⟨_, rfl⟩
          replace hG8 : BB ≤ g8 := by omega
          have ne86 : g8 ≠ g6 := by omega
          rw [hg8] at own8 ⊢
          obtain ⟨w8xb, hw8⟩ : ∃ V, World.alloc w6xacb (.cells #[] 26) = V := ⟨_, rfl⟩
          rw [hw8] at own8 hB hS hN6 ⊢
          clear hw8 hg8 lt6
          refine wpAnyH_ready (rs := [4, 9]) (by kernel_rfl) (by simp) ?_
          refine (AllReadyH.cons (o := { dst := some 63, op := .call { callee := .builtin .append, args := #[.tmp 61, .tmp 62], argTypes := #[38, 38] }, type := 38, pos := "law.go:106", after := #[⟨2, .data⟩, ⟨3, .data⟩], guard := none }) rfl (fun K hK => ?_) (AllReadyH.cons (o := { dst := some 10, op := .alloc 49, type := 0, pos := "law.go:106", after := #[], guard := none }) rfl (fun K hK => ?_) AllReadyH.nil))
          · have hr := run_append_owned_none (P := Tryz.prog) (w := w8xb) BB 38 38 26 i0 3 Tryz.underlying38 hi _ 0 [] own8
            go_simp
            clear hr
            refine hK.out _ _ hS (fun hS => ?_)
            clear hK K
            refine wpAnyH_ready (rs := [7, 9]) (by kernel_rfl) (by simp) ?_
            refine (AllReadyH.cons (o := { dst := some 66, op := .call { callee := .builtin .append, args := #[.tmp 63, .tmp 65], argTypes := #[38, 38] }, type := 38, pos := "law.go:106", after := #[⟨4, .data⟩, ⟨6, .data⟩, ⟨4, .chain⟩], guard := none }) rfl (fun K hK => ?_) (AllReadyH.cons (o := { dst := some 10, op := .alloc 49, type := 0, pos := "law.go:106", after := #[], guard := none }) rfl (fun K hK => ?_) AllReadyH.nil))
            · refine step_append_lies _ rfl _ _ 38 rfl BB 26 i0 (.agg #[.bool false, .string ⟨#[]⟩, .string ⟨#[]⟩]) 3 40 Tryz.underlying38 hi hz0 hz1 hz2 rfl (by decide) _ 0 [] rfl own8 ⟨g6, 0, none⟩ 1 1 [.bool gb, .string S1, .string S2] rfl rfl (World.news_of_block hN6) (by simp [Value.oneCell']) Nat.zero_lt_one (by unfold maxLen; omega) (by omega) (Nat.le_trans (Nat.le_of_eq HBB.out.symm) hB.size) _ rfl ?_
              intro g7 c7 w7xbaa hown7 hgrow7 hat7 hlt7
              have b7 : Below BB wd w7xbaa := hB.grown hgrow7 (Nat.le_trans (Nat.le_of_eq HBB.out.symm) hB.size) (fun r hr => (own8.lt r hr).1)
              have own7 := hown7
              replace hB := b7
              have hS2 := hB
              clear hS b7 hown7 hgrow7 hat7 hlt7 own8 hN6
              refine hK.out _ _ hS2 (fun hS => ?_)
              clear hK K hS2
              refine wpAnyH_take (i := 8) (v := ?vxbaaa8) rfl (by kernel_rfl) (by kernel_rfl) (by kernel_rfl) (fun _ _ _ h => h) (Or.inl ⟨by rfl, ?yxbaaa8⟩) hS ?rxbaaa8
              case yxbaaa8 => (intro w hS; go_simp; try with_reducible rfl)
              go_simp
              refine wpAnyH_ready (rs := [9]) (by kernel_rfl) (by simp) ?_
              refine (AllReadyH.cons (o := { dst := some 10, op := .alloc 49, type := 0, pos := "law.go:106", after := #[], guard := none }) rfl (fun K hK => ?_) AllReadyH.nil)
              go_simp
              have hN1 := heap_alloc_new w7xbaa (.cells #[.slice none 0 0, .slice none 0 0, .slice none 0 0] 49)
              have hG1 : BB ≤ w7xbaa.heap.size := Nat.le_trans (Nat.le_of_eq HBB.out.symm) hB.size
              have bA := (Below.refl w7xbaa.heap.size w7xbaa).alloc (Nat.le_refl _) (.cells #[.slice none 0 0, .slice none 0 0, .slice none 0 0] 49)
              have lt7 := own_lt own7
              replace own7 := own_stay own7 bA
              replace hB := hB.trans (bA.mono (Nat.le_trans (Nat.le_of_eq HBB.out.symm) hB.size))
              have hS2 := hB
              clear hS bA
              refine hK.out _ _ hS2 (fun hS => ?_)
              clear hK K hS2
              obtain ⟨g1, hg1⟩ : ∃ g, w7xbaa.heap.size = g := ⟨_, rfl⟩
              replace hG1 : BB ≤ g1 := by omega
              have ne71 : g7 ≠ g1 := by omega
              rw [hg1] at hN1 ⊢
              obtain ⟨w1xbaaa, hw1⟩ : ∃ V, World.alloc w7xbaa (.cells #[.slice none 0 0, .slice none 0 0, .slice none 0 0] 49) = V := ⟨_, rfl⟩
              rw [hw1] at hN1 hB hS own7 ⊢
              clear hw1 hg1 lt7
              refine wpAnyH_ready (rs := [10]) (by kernel_rfl) (by simp) ?_
              refine (AllReadyH.cons (o := { dst := none, op := .store 49 (.tmp 10) (.tmp 67), type := 0, pos := "law.go:106", after := #[⟨9, .data⟩, ⟨8, .data⟩, ⟨7, .chain⟩, ⟨0, .phase⟩, ⟨1, .phase⟩, ⟨2, .phase⟩, ⟨3, .phase⟩, ⟨4, .phase⟩, ⟨5, .phase⟩, ⟨6, .phase⟩, ⟨7, .phase⟩, ⟨8, .phase⟩, ⟨9, .phase⟩], guard := none }) rfl (fun K hK => ?_) AllReadyH.nil)
              rw [if_pos (by rfl)]
              refine wp_store_row 49 (.tmp 10) (.tmp 67) rfl g1 (#[.slice pa 0 ca, .slice none 0 0, .slice (some ⟨g7, 0, none⟩) (0 + 1) c7]) (by first | rfl | (simp [Act.eval])) (by first | rfl | (simp [Act.eval])) 49 #[.slice none 0 0, .slice none 0 0, .slice none 0 0] hN1 (by kernel_rfl) (by simp) (by simp [Value.oneCell']) ?_
              replace hB := Below.setRow' hB hG1 (#[.slice pa 0 ca, .slice none 0 0, .slice (some ⟨g7, 0, none⟩) (0 + 1) c7])
              have hS2 := hB
              have hrow2 := setRow_heap _ _ _ (#[.slice pa 0 ca, .slice none 0 0, .slice (some ⟨g7, 0, none⟩) (0 + 1) c7]) _ _ hN1
              replace own7 := own_rowne own7 g1 (#[.slice pa 0 ca, .slice none 0 0, .slice (some ⟨g7, 0, none⟩) (0 + 1) c7]) ne71
              clear hS
              refine hK.out _ _ hS2 (fun hS => ?_)
              clear hK K hS2
              refine wpAnyH_done (by kernel_rfl) ?_ _
              go_wp2_with fail
              go_meet
              exact ⟨g1, some ⟨g7, 0, none⟩, c7, rfl, Lib.hid ⟨LWB.out.trans (hB.mono (Nat.le_trans LWB.out.size (Nat.le_of_eq HBB.out))), hrow2, own_LV (by first | (rw [List.length_append, List.length_map, HQ.out.2.2, flr_app]; exact own7) | exact own7)⟩⟩
            · go_simp
              have hN1 := heap_alloc_new w8xb (.cells #[.slice none 0 0, .slice none 0 0, .slice none 0 0] 49)
              have hG1 : BB ≤ w8xb.heap.size := Nat.le_trans (Nat.le_of_eq HBB.out.symm) hB.size
              have bA := (Below.refl w8xb.heap.size w8xb).alloc (Nat.le_refl _) (.cells #[.slice none 0 0, .slice none 0 0, .slice none 0 0] 49)
              have lt6 := (Array.getElem?_eq_some_iff.1 hN6).1
              replace hN6 := (bA.block _ lt6).trans hN6
              have lt8 := own_lt own8
              replace own8 := own_stay own8 bA
              replace hB := hB.trans (bA.mono (Nat.le_trans (Nat.le_of_eq HBB.out.symm) hB.size))
              have hS2 := hB
              clear hS bA
              refine hK.out _ _ hS2 (fun hS => ?_)
              clear hK K hS2
              obtain ⟨g1, hg1⟩ : ∃ g, w8xb.heap.size = g := ⟨_, rfl⟩
              replace hG1 : BB ≤ g1 := by omega
              have ne81 : g8 ≠ g1 := by omega
              rw [hg1] at hN1 ⊢
              obtain ⟨w1xbaaa, hw1⟩ : ∃ V, World.alloc w8xb (.cells #[.slice none 0 0, .slice none 0 0, .slice none 0 0] 49) = V := ⟨_, rfl⟩
              rw [hw1] at hN1 hB hS hN6 own8 ⊢
              clear hw1 hg1 lt6 lt8
              refine wpAnyH_ready (rs := [7]) (by kernel_rfl) (by simp) ?_
              refine (AllReadyH.cons (o := { dst := some 66, op := .call { callee := .builtin .append, args := #[.tmp 63, .tmp 65], argTypes := #[38, 38] }, type := 38, pos := "law.go:106", after := #[⟨4, .data⟩, ⟨6, .data⟩, ⟨4, .chain⟩], guard := none }) rfl (fun K hK => ?_) AllReadyH.nil)
              refine step_append_lies _ rfl _ _ 38 rfl BB 26 i0 (.agg #[.bool false, .string ⟨#[]⟩, .string ⟨#[]⟩]) 3 40 Tryz.underlying38 hi hz0 hz1 hz2 rfl (by decide) _ 0 [] rfl own8 ⟨g6, 0, none⟩ 1 1 [.bool gb, .string S1, .string S2] rfl rfl (World.news_of_block hN6) (by simp [Value.oneCell']) Nat.zero_lt_one (by unfold maxLen; omega) (by omega) (Nat.le_trans (Nat.le_of_eq HBB.out.symm) hB.size) _ rfl ?_
              intro g7 c7 w7xbaab hown7 hgrow7 hat7 hlt7
              have b7 : Below BB wd w7xbaab := hB.grown hgrow7 (Nat.le_trans (Nat.le_of_eq HBB.out.symm) hB.size) (fun r hr => (own8.lt r hr).1)
              have own7 := hown7
              have lt1 := (Array.getElem?_eq_some_iff.1 hN1).1
              have ne71 : g7 ≠ g1 := by
                rcases hat7 with h | h
                · injection (show some g8 = some g7 from h) with h; omega
                · omega
              replace hN1 := (hgrow7.block g1 lt1 (fun e => by injection (show some g1 = some g8 from e) with e; omega)).trans hN1
              clear lt1
              replace hB := b7
              have hS2 := hB
              clear hS b7 hown7 hgrow7 hat7 hlt7 own8 hN6
              refine hK.out _ _ hS2 (fun hS => ?_)
              clear hK K hS2
              refine wpAnyH_take (i := 8) (v := ?vxbaab8) rfl (by kernel_rfl) (by kernel_rfl) (by kernel_rfl) (fun _ _ _ h => h) (Or.inl ⟨by rfl, ?yxbaab8⟩) hS ?rxbaab8
              case yxbaab8 => (intro w hS; go_simp; try with_reducible rfl)
              go_simp
              refine wpAnyH_ready (rs := [10]) (by kernel_rfl) (by simp) ?_
              refine (AllReadyH.cons (o := { dst := none, op := .store 49 (.tmp 10) (.tmp 67), type := 0, pos := "law.go:106", after := #[⟨9, .data⟩, ⟨8, .data⟩, ⟨7, .chain⟩, ⟨0, .phase⟩, ⟨1, .phase⟩, ⟨2, .phase⟩, ⟨3, .phase⟩, ⟨4, .phase⟩, ⟨5, .phase⟩, ⟨6, .phase⟩, ⟨7, .phase⟩, ⟨8, .phase⟩, ⟨9, .phase⟩], guard := none }) rfl (fun K hK => ?_) AllReadyH.nil)
              rw [if_pos (by rfl)]
              refine wp_store_row 49 (.tmp 10) (.tmp 67) rfl g1 (#[.slice pa 0 ca, .slice none 0 0, .slice (some ⟨g7, 0, none⟩) (0 + 1) c7]) (by first | rfl | (simp [Act.eval])) (by first | rfl | (simp [Act.eval])) 49 #[.slice none 0 0, .slice none 0 0, .slice none 0 0] hN1 (by kernel_rfl) (by simp) (by simp [Value.oneCell']) ?_
              replace hB := Below.setRow' hB hG1 (#[.slice pa 0 ca, .slice none 0 0, .slice (some ⟨g7, 0, none⟩) (0 + 1) c7])
              have hS2 := hB
              have hrow2 := setRow_heap _ _ _ (#[.slice pa 0 ca, .slice none 0 0, .slice (some ⟨g7, 0, none⟩) (0 + 1) c7]) _ _ hN1
              replace own7 := own_rowne own7 g1 (#[.slice pa 0 ca, .slice none 0 0, .slice (some ⟨g7, 0, none⟩) (0 + 1) c7]) ne71
              clear hS
              refine hK.out _ _ hS2 (fun hS => ?_)
              clear hK K hS2
              refine wpAnyH_done (by kernel_rfl) ?_ _
              go_wp2_with fail
              go_meet
              exact ⟨g1, some ⟨g7, 0, none⟩, c7, rfl, Lib.hid ⟨LWB.out.trans (hB.mono (Nat.le_trans LWB.out.size (Nat.le_of_eq HBB.out))), hrow2, own_LV (by first | (rw [List.length_append, List.length_map, HQ.out.2.2, flr_app]; exact own7) | exact own7)⟩⟩
          · go_simp
            have hN1 := heap_alloc_new w8xb (.cells #[.slice none 0 0, .slice none 0 0, .slice none 0 0] 49)
            have hG1 : BB ≤ w8xb.heap.size := Nat.le_trans (Nat.le_of_eq HBB.out.symm) hB.size
            have bA := (Below.refl w8xb.heap.size w8xb).alloc (Nat.le_refl _) (.cells #[.slice none 0 0, .slice none 0 0, .slice none 0 0] 49)
            have lt6 := (Array.getElem?_eq_some_iff.1 hN6).1
            replace hN6 := (bA.block _ lt6).trans hN6
            have lt8 := own_lt own8
            replace own8 := own_stay own8 bA
            replace hB := hB.trans (bA.mono (Nat.le_trans (Nat.le_of_eq HBB.out.symm) hB.size))
            have hS2 := hB
            clear hS bA
            refine hK.out _ _ hS2 (fun hS => ?_)
            clear hK K hS2
            obtain ⟨g1, hg1⟩ : ∃ g, w8xb.heap.size = g := ⟨_, rfl⟩
            replace hG1 : BB ≤ g1 := by omega
            have ne81 : g8 ≠ g1 := by omega
            rw [hg1] at hN1 ⊢
            obtain ⟨w1xbaab, hw1⟩ : ∃ V, World.alloc w8xb (.cells #[.slice none 0 0, .slice none 0 0, .slice none 0 0] 49) = V := ⟨_, rfl⟩
            rw [hw1] at hN1 hB hS hN6 own8 ⊢
            clear hw1 hg1 lt6 lt8
            refine wpAnyH_ready (rs := [4]) (by kernel_rfl) (by simp) ?_
            refine (AllReadyH.cons (o := { dst := some 63, op := .call { callee := .builtin .append, args := #[.tmp 61, .tmp 62], argTypes := #[38, 38] }, type := 38, pos := "law.go:106", after := #[⟨2, .data⟩, ⟨3, .data⟩], guard := none }) rfl (fun K hK => ?_) AllReadyH.nil)
            have hr := run_append_owned_none (P := Tryz.prog) (w := w1xbaab) BB 38 38 26 i0 3 Tryz.underlying38 hi _ 0 [] own8
            go_simp
            clear hr
            refine hK.out _ _ hS (fun hS => ?_)
            clear hK K
            refine wpAnyH_ready (rs := [7]) (by kernel_rfl) (by simp) ?_
            refine (AllReadyH.cons (o := { dst := some 66, op := .call { callee := .builtin .append, args := #[.tmp 63, .tmp 65], argTypes := #[38, 38] }, type := 38, pos := "law.go:106", after := #[⟨4, .data⟩, ⟨6, .data⟩, ⟨4, .chain⟩], guard := none }) rfl (fun K hK => ?_) AllReadyH.nil)
            refine step_append_lies _ rfl _ _ 38 rfl BB 26 i0 (.agg #[.bool false, .string ⟨#[]⟩, .string ⟨#[]⟩]) 3 40 Tryz.underlying38 hi hz0 hz1 hz2 rfl (by decide) _ 0 [] rfl own8 ⟨g6, 0, none⟩ 1 1 [.bool gb, .string S1, .string S2] rfl rfl (World.news_of_block hN6) (by simp [Value.oneCell']) Nat.zero_lt_one (by unfold maxLen; omega) (by omega) (Nat.le_trans (Nat.le_of_eq HBB.out.symm) hB.size) _ rfl ?_
            intro g7 c7 w7xbab hown7 hgrow7 hat7 hlt7
            have b7 : Below BB wd w7xbab := hB.grown hgrow7 (Nat.le_trans (Nat.le_of_eq HBB.out.symm) hB.size) (fun r hr => (own8.lt r hr).1)
            have own7 := hown7
            have lt1 := (Array.getElem?_eq_some_iff.1 hN1).1
            have ne71 : g7 ≠ g1 := by
              rcases hat7 with h | h
              · injection (show some g8 = some g7 from h) with h; omega
              · omega
            replace hN1 := (hgrow7.block g1 lt1 (fun e => by injection (show some g1 = some g8 from e) with e; omega)).trans hN1
            clear lt1
            replace hB := b7
            have hS2 := hB
            clear hS b7 hown7 hgrow7 hat7 hlt7 own8 hN6
            refine hK.out _ _ hS2 (fun hS => ?_)
            clear hK K hS2
            refine wpAnyH_take (i := 8) (v := ?vxbab8) rfl (by kernel_rfl) (by kernel_rfl) (by kernel_rfl) (fun _ _ _ h => h) (Or.inl ⟨by rfl, ?yxbab8⟩) hS ?rxbab8
            case yxbab8 => (intro w hS; go_simp; try with_reducible rfl)
            go_simp
            refine wpAnyH_ready (rs := [10]) (by kernel_rfl) (by simp) ?_
            refine (AllReadyH.cons (o := { dst := none, op := .store 49 (.tmp 10) (.tmp 67), type := 0, pos := "law.go:106", after := #[⟨9, .data⟩, ⟨8, .data⟩, ⟨7, .chain⟩, ⟨0, .phase⟩, ⟨1, .phase⟩, ⟨2, .phase⟩, ⟨3, .phase⟩, ⟨4, .phase⟩, ⟨5, .phase⟩, ⟨6, .phase⟩, ⟨7, .phase⟩, ⟨8, .phase⟩, ⟨9, .phase⟩], guard := none }) rfl (fun K hK => ?_) AllReadyH.nil)
            rw [if_pos (by rfl)]
            refine wp_store_row 49 (.tmp 10) (.tmp 67) rfl g1 (#[.slice pa 0 ca, .slice none 0 0, .slice (some ⟨g7, 0, none⟩) (0 + 1) c7]) (by first | rfl | (simp [Act.eval])) (by first | rfl | (simp [Act.eval])) 49 #[.slice none 0 0, .slice none 0 0, .slice none 0 0] hN1 (by kernel_rfl) (by simp) (by simp [Value.oneCell']) ?_
            replace hB := Below.setRow' hB hG1 (#[.slice pa 0 ca, .slice none 0 0, .slice (some ⟨g7, 0, none⟩) (0 + 1) c7])
            have hS2 := hB
            have hrow2 := setRow_heap _ _ _ (#[.slice pa 0 ca, .slice none 0 0, .slice (some ⟨g7, 0, none⟩) (0 + 1) c7]) _ _ hN1
            replace own7 := own_rowne own7 g1 (#[.slice pa 0 ca, .slice none 0 0, .slice (some ⟨g7, 0, none⟩) (0 + 1) c7]) ne71
            clear hS
            refine hK.out _ _ hS2 (fun hS => ?_)
            clear hK K hS2
            refine wpAnyH_done (by kernel_rfl) ?_ _
            go_wp2_with fail
            go_meet
            exact ⟨g1, some ⟨g7, 0, none⟩, c7, rfl, Lib.hid ⟨LWB.out.trans (hB.mono (Nat.le_trans LWB.out.size (Nat.le_of_eq HBB.out))), hrow2, own_LV (by first | (rw [List.length_append, List.length_map, HQ.out.2.2, flr_app]; exact own7) | exact own7)⟩⟩
        · go_simp
          have hN1 := heap_alloc_new w6xacb (.cells #[.slice none 0 0, .slice none 0 0, .slice none 0 0] 49)
          have hG1 : BB ≤ w6xacb.heap.size := Nat.le_trans (Nat.le_of_eq HBB.out.symm) hB.size
          have bA := (Below.refl w6xacb.heap.size w6xacb).alloc (Nat.le_refl _) (.cells #[.slice none 0 0, .slice none 0 0, .slice none 0 0] 49)
          have lt6 := (Array.getElem?_eq_some_iff.1 hN6).1
          replace hN6 := (bA.block _ lt6).trans hN6
          replace hB := hB.trans (bA.mono (Nat.le_trans (Nat.le_of_eq HBB.out.symm) hB.size))
          have hS2 := hB
          clear hS bA
          refine hK.out _ _ hS2 (fun hS => ?_)
          clear hK K hS2
          obtain ⟨g1, hg1⟩ : ∃ g, w6xacb.heap.size = g := ⟨_, rfl⟩
          replace hG1 : BB ≤ g1 := by omega
          rw [hg1] at hN1 ⊢
          obtain ⟨w1xbab, hw1⟩ : ∃ V, World.alloc w6xacb (.cells #[.slice none 0 0, .slice none 0 0, .slice none 0 0] 49) = V := ⟨_, rfl⟩
          rw [hw1] at hN1 hB hS hN6 ⊢
          clear hw1 hg1 lt6
          refine wpAnyH_ready (rs := [2]) (by kernel_rfl) (by simp) ?_
          refine (AllReadyH.cons (o := { dst := some 61, op := .buildSlice 38 0 #[], type := 38, pos := "law.go:106", after := #[], guard := none }) rfl (fun K hK => ?_) AllReadyH.nil)
          go_simp
          have own8 := own_emptyR w1xbab BB (Nat.le_trans (Nat.le_of_eq HBB.out.symm) hB.size)
          have hG8 : BB ≤ w1xbab.heap.size := Nat.le_trans (Nat.le_of_eq HBB.out.symm) hB.size
          have bA := (Below.refl w1xbab.heap.size w1xbab).alloc (Nat.le_refl _) (.cells #[] 26)
          have lt6 := (Array.getElem?_eq_some_iff.1 hN6).1
          replace hN6 := (bA.block _ lt6).trans hN6
          have lt1 := (Array.getElem?_eq_some_iff.1 hN1).1
          replace hN1 := (bA.block _ lt1).trans hN1
          replace hB := hB.trans (bA.mono (Nat.le_trans (Nat.le_of_eq HBB.out.symm) hB.size))
          have hS2 := hB
          clear hS bA
          refine hK.out _ _ hS2 (fun hS => ?_)
          clear hK K hS2
          obtain ⟨g8, hg8⟩ : ∃ g, w1xbab.heap.size = g := ⟨_, rfl⟩
          replace hG8 : BB ≤ g8 := by omega
          have ne86 : g8 ≠ g6 := by omega
          have ne81 : g8 ≠ g1 := by omega
          rw [hg8] at own8 ⊢
          obtain ⟨w8xbb, hw8⟩ : ∃ V, World.alloc w1xbab (.cells #[] 26) = V := ⟨_, rfl⟩
          rw [hw8] at own8 hB hS hN6 hN1 ⊢
          clear hw8 hg8 lt6 lt1
          refine wpAnyH_ready (rs := [4]) (by kernel_rfl) (by simp) ?_
          refine (AllReadyH.cons (o := { dst := some 63, op := .call { callee := .builtin .append, args := #[.tmp 61, .tmp 62], argTypes := #[38, 38] }, type := 38, pos := "law.go:106", after := #[⟨2, .data⟩, ⟨3, .data⟩], guard := none }) rfl (fun K hK => ?_) AllReadyH.nil)
          have hr := run_append_owned_none (P := Tryz.prog) (w := w8xbb) BB 38 38 26 i0 3 Tryz.underlying38 hi _ 0 [] own8
          go_simp
          clear hr
          refine hK.out _ _ hS (fun hS => ?_)
          clear hK K
          refine wpAnyH_ready (rs := [7]) (by kernel_rfl) (by simp) ?_
          refine (AllReadyH.cons (o := { dst := some 66, op := .call { callee := .builtin .append, args := #[.tmp 63, .tmp 65], argTypes := #[38, 38] }, type := 38, pos := "law.go:106", after := #[⟨4, .data⟩, ⟨6, .data⟩, ⟨4, .chain⟩], guard := none }) rfl (fun K hK => ?_) AllReadyH.nil)
          refine step_append_lies _ rfl _ _ 38 rfl BB 26 i0 (.agg #[.bool false, .string ⟨#[]⟩, .string ⟨#[]⟩]) 3 40 Tryz.underlying38 hi hz0 hz1 hz2 rfl (by decide) _ 0 [] rfl own8 ⟨g6, 0, none⟩ 1 1 [.bool gb, .string S1, .string S2] rfl rfl (World.news_of_block hN6) (by simp [Value.oneCell']) Nat.zero_lt_one (by unfold maxLen; omega) (by omega) (Nat.le_trans (Nat.le_of_eq HBB.out.symm) hB.size) _ rfl ?_
          intro g7 c7 w7xbb hown7 hgrow7 hat7 hlt7
          have b7 : Below BB wd w7xbb := hB.grown hgrow7 (Nat.le_trans (Nat.le_of_eq HBB.out.symm) hB.size) (fun r hr => (own8.lt r hr).1)
          have own7 := hown7
          have lt1 := (Array.getElem?_eq_some_iff.1 hN1).1
          have ne71 : g7 ≠ g1 := by
            rcases hat7 with h | h
            · injection (show some g8 = some g7 from h) with h; omega
            · omega
          replace hN1 := (hgrow7.block g1 lt1 (fun e => by injection (show some g1 = some g8 from e) with e; omega)).trans hN1
          clear lt1
          replace hB := b7
          have hS2 := hB
          clear hS b7 hown7 hgrow7 hat7 hlt7 own8 hN6
          refine hK.out _ _ hS2 (fun hS => ?_)
          clear hK K hS2
          refine wpAnyH_take (i := 8) (v := ?vxbb8) rfl (by kernel_rfl) (by kernel_rfl) (by kernel_rfl) (fun _ _ _ h => h) (Or.inl ⟨by rfl, ?yxbb8⟩) hS ?rxbb8
          case yxbb8 => (intro w hS; go_simp; try with_reducible rfl)
          go_simp
          refine wpAnyH_ready (rs := [10]) (by kernel_rfl) (by simp) ?_
          refine (AllReadyH.cons (o := { dst := none, op := .store 49 (.tmp 10) (.tmp 67), type := 0, pos := "law.go:106", after := #[⟨9, .data⟩, ⟨8, .data⟩, ⟨7, .chain⟩, ⟨0, .phase⟩, ⟨1, .phase⟩, ⟨2, .phase⟩, ⟨3, .phase⟩, ⟨4, .phase⟩, ⟨5, .phase⟩, ⟨6, .phase⟩, ⟨7, .phase⟩, ⟨8, .phase⟩, ⟨9, .phase⟩], guard := none }) rfl (fun K hK => ?_) AllReadyH.nil)
          rw [if_pos (by rfl)]
          refine wp_store_row 49 (.tmp 10) (.tmp 67) rfl g1 (#[.slice pa 0 ca, .slice none 0 0, .slice (some ⟨g7, 0, none⟩) (0 + 1) c7]) (by first | rfl | (simp [Act.eval])) (by first | rfl | (simp [Act.eval])) 49 #[.slice none 0 0, .slice none 0 0, .slice none 0 0] hN1 (by kernel_rfl) (by simp) (by simp [Value.oneCell']) ?_
          replace hB := Below.setRow' hB hG1 (#[.slice pa 0 ca, .slice none 0 0, .slice (some ⟨g7, 0, none⟩) (0 + 1) c7])
          have hS2 := hB
          have hrow2 := setRow_heap _ _ _ (#[.slice pa 0 ca, .slice none 0 0, .slice (some ⟨g7, 0, none⟩) (0 + 1) c7]) _ _ hN1
          replace own7 := own_rowne own7 g1 (#[.slice pa 0 ca, .slice none 0 0, .slice (some ⟨g7, 0, none⟩) (0 + 1) c7]) ne71
          clear hS
          refine hK.out _ _ hS2 (fun hS => ?_)
          clear hK K hS2
          refine wpAnyH_done (by kernel_rfl) ?_ _
          go_wp2_with fail
          go_meet
          exact ⟨g1, some ⟨g7, 0, none⟩, c7, rfl, Lib.hid ⟨LWB.out.trans (hB.mono (Nat.le_trans LWB.out.size (Nat.le_of_eq HBB.out))), hrow2, own_LV (by first | (rw [List.length_append, List.length_map, HQ.out.2.2, flr_app]; exact own7) | exact own7)⟩⟩
      · go_simp
        have hN1 := heap_alloc_new wd (.cells #[.slice none 0 0, .slice none 0 0, .slice none 0 0] 49)
        have hG1 : BB ≤ wd.heap.size := Nat.le_trans (Nat.le_of_eq HBB.out.symm) hB.size
        have bA := (Below.refl wd.heap.size wd).alloc (Nat.le_refl _) (.cells #[.slice none 0 0, .slice none 0 0, .slice none 0 0] 49)
        replace hB := hB.trans (bA.mono (Nat.le_trans (Nat.le_of_eq HBB.out.symm) hB.size))
        have hS2 := hB
        clear hS bA
        refine hK.out _ _ hS2 (fun hS => ?_)
        clear hK K hS2
        obtain ⟨g1, hg1⟩ : ∃ g, wd.heap.size = g := ⟨_, rfl⟩
        replace hG1 : BB ≤ g1 := by omega
        rw [hg1] at hN1 ⊢
        obtain ⟨w1xbb, hw1⟩ : ∃ V, World.alloc wd (.cells #[.slice none 0 0, .slice none 0 0, .slice none 0 0] 49) = V := ⟨_, rfl⟩
        rw [hw1] at hN1 hB hS  ⊢
        clear hw1 hg1 
        refine wpAnyH_ready (rs := [2, 6]) (by kernel_rfl) (by simp) ?_
        refine (AllReadyH.cons (o := { dst := some 61, op := .buildSlice 38 0 #[], type := 38, pos := "law.go:106", after := #[], guard := none }) rfl (fun K hK => ?_) (AllReadyH.cons (o := { dst := some 65, op := .buildSlice 38 1 #[(0, .tmp 64)], type := 38, pos := "law.go:106", after := #[⟨5, .data⟩], guard := none }) rfl (fun K hK => ?_) AllReadyH.nil))
        · go_simp
          have own8 := own_emptyR w1xbb BB (Nat.le_trans (Nat.le_of_eq HBB.out.symm) hB.size)
          have hG8 : BB ≤ w1xbb.heap.size := Nat.le_trans (Nat.le_of_eq HBB.out.symm) hB.size
          have bA := (Below.refl w1xbb.heap.size w1xbb).alloc (Nat.le_refl _) (.cells #[] 26)
          have lt1 := (Array.getElem?_eq_some_iff.1 hN1).1
          replace hN1 := (bA.block _ lt1).trans hN1
          replace hB := hB.trans (bA.mono (Nat.le_trans (Nat.le_of_eq HBB.out.symm) hB.size))
          have hS2 := hB
          clear hS bA
          refine hK.out _ _ hS2 (fun hS => ?_)
          clear hK K hS2
          obtain ⟨g8, hg8⟩ : ∃ g, w1xbb.heap.size = g := ⟨_, rfl⟩
          replace hG8 : BB ≤ g8 := by omega
          have ne81 : g8 ≠ g1 := by omega
          rw [hg8] at own8 ⊢
          obtain ⟨w8xc, hw8⟩ : ∃ V, World.alloc w1xbb (.cells #[] 26) = V := ⟨_, rfl⟩
          rw [hw8] at own8 hB hS hN1 ⊢
          clear hw8 hg8 lt1
          refine wpAnyH_ready (rs := [4, 6]) (by kernel_rfl) (by simp) ?_
          refine (AllReadyH.cons (o := { dst := some 63, op := .call { callee := .builtin .append, args := #[.tmp 61, .tmp 62], argTypes := #[38, 38] }, type := 38, pos := "law.go:106", after := #[⟨2, .data⟩, ⟨3, .data⟩], guard := none }) rfl (fun K hK => ?_) (AllReadyH.cons (o := { dst := some 65, op := .buildSlice 38 1 #[(0, .tmp 64)], type := 38, pos := "law.go:106", after := #[⟨5, .data⟩], guard := none }) rfl (fun K hK => ?_) AllReadyH.nil))
          · have hr := run_append_owned_none (P := Tryz.prog) (w := w8xc) BB 38 38 26 i0 3 Tryz.underlying38 hi _ 0 [] own8
            go_simp
            clear hr
            refine hK.out _ _ hS (fun hS => ?_)
            clear hK K
            refine wpAnyH_ready (rs := [6]) (by kernel_rfl) (by simp) ?_
            refine (AllReadyH.cons (o := { dst := some 65, op := .buildSlice 38 1 #[(0, .tmp 64)], type := 38, pos := "law.go:106", after := #[⟨5, .data⟩], guard := none }) rfl (fun K hK => ?_) AllReadyH.nil)
            go_simp
            have hN6 := heap_alloc_new w8xc (.cells #[.bool gb, .string S1, .string S2] 26)
            have hG6 : BB ≤ w8xc.heap.size := Nat.le_trans (Nat.le_of_eq HBB.out.symm) hB.size
            have bA := (Below.refl w8xc.heap.size w8xc).alloc (Nat.le_refl _) (.cells #[.bool gb, .string S1, .string S2] 26)
            have lt1 := (Array.getElem?_eq_some_iff.1 hN1).1
            replace hN1 := (bA.block _ lt1).trans hN1
            have lt8 := own_lt own8
            replace own8 := own_stay own8 bA
            replace hB := hB.trans (bA.mono (Nat.le_trans (Nat.le_of_eq HBB.out.symm) hB.size))
            have hS2 := hB
            clear hS bA
            refine hK.out _ _ hS2 (fun hS => ?_)
            clear hK K hS2
            obtain ⟨g6, hg6⟩ : ∃ g, w8xc.heap.size = g := ⟨_, rfl⟩
            replace hG6 : BB ≤ g6 := by omega
            have ne86 : g8 ≠ g6 := by omega
            rw [hg6] at hN6 ⊢
            obtain ⟨w6xcaa, hw6⟩ : ∃ V, World.alloc w8xc (.cells #[.bool gb, .string S1, .string S2] 26) = V := ⟨_, rfl⟩
            rw [hw6] at hN6 hB hS hN1 own8 ⊢
            clear hw6 hg6 lt1 lt8
            refine wpAnyH_ready (rs := [7]) (by kernel_rfl) (by simp) ?_
            refine (AllReadyH.cons (o := { dst := some 66, op := .call { callee := .builtin .append, args := #[.tmp 63, .tmp 65], argTypes := #[38, 38] }, type := 38, pos := "law.go:106", after := #[⟨4, .data⟩, ⟨6, .data⟩, ⟨4, .chain⟩], guard := none }) rfl (fun K hK => ?_) AllReadyH.nil)
            refine step_append_lies _ rfl _ _ 38 rfl BB 26 i0 (.agg #[.bool false, .string ⟨#[]⟩, .string ⟨#[]⟩]) 3 40 Tryz.underlying38 hi hz0 hz1 hz2 rfl (by decide) _ 0 [] rfl own8 ⟨g6, 0, none⟩ 1 1 [.bool gb, .string S1, .string S2] rfl rfl (World.news_of_block hN6) (by simp [Value.oneCell']) Nat.zero_lt_one (by unfold maxLen; omega) (by omega) (Nat.le_trans (Nat.le_of_eq HBB.out.symm) hB.size) _ rfl ?_
            intro g7 c7 w7xcaa hown7 hgrow7 hat7 hlt7
            have b7 : Below BB wd w7xcaa := hB.grown hgrow7 (Nat.le_trans (Nat.le_of_eq HBB.out.symm) hB.size) (fun r hr => (own8.lt r hr).1)
            have own7 := hown7
            have lt1 := (Array.getElem?_eq_some_iff.1 hN1).1
            have ne71 : g7 ≠ g1 := by
              rcases hat7 with h | h
              · injection (show some g8 = some g7 from h) with h; omega
              · omega
            replace hN1 := (hgrow7.block g1 lt1 (fun e => by injection (show some g1 = some g8 from e) with e; omega)).trans hN1
            clear lt1
            replace hB := b7
            have hS2 := hB
            clear hS b7 hown7 hgrow7 hat7 hlt7 own8 hN6
            refine hK.out _ _ hS2 (fun hS => ?_)
            clear hK K hS2
            refine wpAnyH_take (i := 8) (v := ?vxcaa8) rfl (by kernel_rfl) (by kernel_rfl) (by kernel_rfl) (fun _ _ _ h => h) (Or.inl ⟨by rfl, ?yxcaa8⟩) hS ?rxcaa8
            case yxcaa8 => (intro w hS; go_simp; try with_reducible rfl)
            go_simp
            refine wpAnyH_ready (rs := [10]) (by kernel_rfl) (by simp) ?_
            refine (AllReadyH.cons (o := { dst := none, op := .store 49 (.tmp 10) (.tmp 67), type := 0, pos := "law.go:106", after := #[⟨9, .data⟩, ⟨8, .data⟩, ⟨7, .chain⟩, ⟨0, .phase⟩, ⟨1, .phase⟩, ⟨2, .phase⟩, ⟨3, .phase⟩, ⟨4, .phase⟩, ⟨5, .phase⟩, ⟨6, .phase⟩, ⟨7, .phase⟩, ⟨8, .phase⟩, ⟨9, .phase⟩], guard := none }) rfl (fun K hK => ?_) AllReadyH.nil)
            rw [if_pos (by rfl)]
            refine wp_store_row 49 (.tmp 10) (.tmp 67) rfl g1 (#[.slice pa 0 ca, .slice none 0 0, .slice (some ⟨g7, 0, none⟩) (0 + 1) c7]) (by first | rfl | (simp [Act.eval])) (by first | rfl | (simp [Act.eval])) 49 #[.slice none 0 0, .slice none 0 0, .slice none 0 0] hN1 (by kernel_rfl) (by simp) (by simp [Value.oneCell']) ?_
            replace hB := Below.setRow' hB hG1 (#[.slice pa 0 ca, .slice none 0 0, .slice (some ⟨g7, 0, none⟩) (0 + 1) c7])
            have hS2 := hB
            have hrow2 := setRow_heap _ _ _ (#[.slice pa 0 ca, .slice none 0 0, .slice (some ⟨g7, 0, none⟩) (0 + 1) c7]) _ _ hN1
            replace own7 := own_rowne own7 g1 (#[.slice pa 0 ca, .slice none 0 0, .slice (some ⟨g7, 0, none⟩) (0 + 1) c7]) ne71
            clear hS
            refine hK.out _ _ hS2 (fun hS => ?_)
            clear hK K hS2
            refine wpAnyH_done (by kernel_rfl) ?_ _
            go_wp2_with fail
            go_meet
            exact ⟨g1, some ⟨g7, 0, none⟩, c7, rfl, Lib.hid ⟨LWB.out.trans (hB.mono (Nat.le_trans LWB.out.size (Nat.le_of_eq HBB.out))), hrow2, own_LV (by first | (rw [List.length_append, List.length_map, HQ.out.2.2, flr_app]; exact own7) | exact own7)⟩⟩
          · go_simp
            have hN6 := heap_alloc_new w8xc (.cells #[.bool gb, .string S1, .string S2] 26)
            have hG6 : BB ≤ w8xc.heap.size := Nat.le_trans (Nat.le_of_eq HBB.out.symm) hB.size
            have bA := (Below.refl w8xc.heap.size w8xc).alloc (Nat.le_refl _) (.cells #[.bool gb, .string S1, .string S2] 26)
            have lt1 := (Array.getElem?_eq_some_iff.1 hN1).1
            replace hN1 := (bA.block _ lt1).trans hN1
            have lt8 := own_lt own8
            replace own8 := own_stay own8 bA
            replace hB := hB.trans (bA.mono (Nat.le_trans (Nat.le_of_eq HBB.out.symm) hB.size))
            have hS2 := hB
            clear hS bA
            refine hK.out _ _ hS2 (fun hS => ?_)
            clear hK K hS2
            obtain ⟨g6, hg6⟩ : ∃ g, w8xc.heap.size = g := ⟨_, rfl⟩
            replace hG6 : BB ≤ g6 := by omega
            have ne86 : g8 ≠ g6 := by omega
            rw [hg6] at hN6 ⊢
            obtain ⟨w6xcaa, hw6⟩ : ∃ V, World.alloc w8xc (.cells #[.bool gb, .string S1, .string S2] 26) = V := ⟨_, rfl⟩
            rw [hw6] at hN6 hB hS hN1 own8 ⊢
            clear hw6 hg6 lt1 lt8
            refine wpAnyH_ready (rs := [4]) (by kernel_rfl) (by simp) ?_
            refine (AllReadyH.cons (o := { dst := some 63, op := .call { callee := .builtin .append, args := #[.tmp 61, .tmp 62], argTypes := #[38, 38] }, type := 38, pos := "law.go:106", after := #[⟨2, .data⟩, ⟨3, .data⟩], guard := none }) rfl (fun K hK => ?_) AllReadyH.nil)
            have hr := run_append_owned_none (P := Tryz.prog) (w := w6xcaa) BB 38 38 26 i0 3 Tryz.underlying38 hi _ 0 [] own8
            go_simp
            clear hr
            refine hK.out _ _ hS (fun hS => ?_)
            clear hK K
            refine wpAnyH_ready (rs := [7]) (by kernel_rfl) (by simp) ?_
            refine (AllReadyH.cons (o := { dst := some 66, op := .call { callee := .builtin .append, args := #[.tmp 63, .tmp 65], argTypes := #[38, 38] }, type := 38, pos := "law.go:106", after := #[⟨4, .data⟩, ⟨6, .data⟩, ⟨4, .chain⟩], guard := none }) rfl (fun K hK => ?_) AllReadyH.nil)
            refine step_append_lies _ rfl _ _ 38 rfl BB 26 i0 (.agg #[.bool false, .string ⟨#[]⟩, .string ⟨#[]⟩]) 3 40 Tryz.underlying38 hi hz0 hz1 hz2 rfl (by decide) _ 0 [] rfl own8 ⟨g6, 0, none⟩ 1 1 [.bool gb, .string S1, .string S2] rfl rfl (World.news_of_block hN6) (by simp [Value.oneCell']) Nat.zero_lt_one (by unfold maxLen; omega) (by omega) (Nat.le_trans (Nat.le_of_eq HBB.out.symm) hB.size) _ rfl ?_
            intro g7 c7 w7xcab hown7 hgrow7 hat7 hlt7
            have b7 : Below BB wd w7xcab := hB.grown hgrow7 (Nat.le_trans (Nat.le_of_eq HBB.out.symm) hB.size) (fun r hr => (own8.lt r hr).1)
            have own7 := hown7
            have lt1 := (Array.getElem?_eq_some_iff.1 hN1).1
            have ne71 : g7 ≠ g1 := by
              rcases hat7 with h | h
              · injection (show some g8 = some g7 from h) with h; omega
              · omega
            replace hN1 := (hgrow7.block g1 lt1 (fun e => by injection (show some g1 = some g8 from e) with e; omega)).trans hN1
            clear lt1
            replace hB := b7
            have hS2 := hB
            clear hS b7 hown7 hgrow7 hat7 hlt7 own8 hN6
            refine hK.out _ _ hS2 (fun hS => ?_)
            clear hK K hS2
            refine wpAnyH_take (i := 8) (v := ?vxcab8) rfl (by kernel_rfl) (by kernel_rfl) (by kernel_rfl) (fun _ _ _ h => h) (Or.inl ⟨by rfl, ?yxcab8⟩) hS ?rxcab8
            case yxcab8 => (intro w hS; go_simp; try with_reducible rfl)
            go_simp
            refine wpAnyH_ready (rs := [10]) (by kernel_rfl) (by simp) ?_
            refine (AllReadyH.cons (o := { dst := none, op := .store 49 (.tmp 10) (.tmp 67), type := 0, pos := "law.go:106", after := #[⟨9, .data⟩, ⟨8, .data⟩, ⟨7, .chain⟩, ⟨0, .phase⟩, ⟨1, .phase⟩, ⟨2, .phase⟩, ⟨3, .phase⟩, ⟨4, .phase⟩, ⟨5, .phase⟩, ⟨6, .phase⟩, ⟨7, .phase⟩, ⟨8, .phase⟩, ⟨9, .phase⟩], guard := none }) rfl (fun K hK => ?_) AllReadyH.nil)
            rw [if_pos (by rfl)]
            refine wp_store_row 49 (.tmp 10) (.tmp 67) rfl g1 (#[.slice pa 0 ca, .slice none 0 0, .slice (some ⟨g7, 0, none⟩) (0 + 1) c7]) (by first | rfl | (simp [Act.eval])) (by first | rfl | (simp [Act.eval])) 49 #[.slice none 0 0, .slice none 0 0, .slice none 0 0] hN1 (by kernel_rfl) (by simp) (by simp [Value.oneCell']) ?_
            replace hB := Below.setRow' hB hG1 (#[.slice pa 0 ca, .slice none 0 0, .slice (some ⟨g7, 0, none⟩) (0 + 1) c7])
            have hS2 := hB
            have hrow2 := setRow_heap _ _ _ (#[.slice pa 0 ca, .slice none 0 0, .slice (some ⟨g7, 0, none⟩) (0 + 1) c7]) _ _ hN1
            replace own7 := own_rowne own7 g1 (#[.slice pa 0 ca, .slice none 0 0, .slice (some ⟨g7, 0, none⟩) (0 + 1) c7]) ne71
            clear hS
            refine hK.out _ _ hS2 (fun hS => ?_)
            clear hK K hS2
            refine wpAnyH_done (by kernel_rfl) ?_ _
            go_wp2_with fail
            go_meet
            exact ⟨g1, some ⟨g7, 0, none⟩, c7, rfl, Lib.hid ⟨LWB.out.trans (hB.mono (Nat.le_trans LWB.out.size (Nat.le_of_eq HBB.out))), hrow2, own_LV (by first | (rw [List.length_append, List.length_map, HQ.out.2.2, flr_app]; exact own7) | exact own7)⟩⟩
        · go_simp
          have hN6 := heap_alloc_new w1xbb (.cells #[.bool gb, .string S1, .string S2] 26)
          have hG6 : BB ≤ w1xbb.heap.size := Nat.le_trans (Nat.le_of_eq HBB.out.symm) hB.size
          have bA := (Below.refl w1xbb.heap.size w1xbb).alloc (Nat.le_refl _) (.cells #[.bool gb, .string S1, .string S2] 26)
          have lt1 := (Array.getElem?_eq_some_iff.1 hN1).1
          replace hN1 := (bA.block _ lt1).trans hN1
          replace hB := hB.trans (bA.mono (Nat.le_trans (Nat.le_of_eq HBB.out.symm) hB.size))
          have hS2 := hB
          clear hS bA
          refine hK.out _ _ hS2 (fun hS => ?_)
          clear hK K hS2
          obtain ⟨g6, hg6⟩ : ∃ g, w1xbb.heap.size = g := ⟨_, rfl⟩
          replace hG6 : BB ≤ g6 := by omega
          rw [hg6] at hN6 ⊢
          obtain ⟨w6xcab, hw6⟩ : ∃ V, World.alloc w1xbb (.cells #[.bool gb, .string S1, .string S2] 26) = V := ⟨_, rfl⟩
          rw [hw6] at hN6 hB hS hN1 ⊢
          clear hw6 hg6 lt1
          refine wpAnyH_ready (rs := [2]) (by kernel_rfl) (by simp) ?_
          refine (AllReadyH.cons (o := { dst := some 61, op := .buildSlice 38 0 #[], type := 38, pos := "law.go:106", after := #[], guard := none }) rfl (fun K hK => ?_) AllReadyH.nil)
          go_simp
          have own8 := own_emptyR w6xcab BB (Nat.le_trans (Nat.le_of_eq HBB.out.symm) hB.size)
          have hG8 : BB ≤ w6xcab.heap.size := Nat.le_trans (Nat.le_of_eq HBB.out.symm) hB.size
          have bA := (Below.refl w6xcab.heap.size w6xcab).alloc (Nat.le_refl _) (.cells #[] 26)
          have lt1 := (Array.getElem?_eq_some_iff.1 hN1).1
          replace hN1 := (bA.block _ lt1).trans hN1
          have lt6 := (Array.getElem?_eq_some_iff.1 hN6).1
          replace hN6 := (bA.block _ lt6).trans hN6
          replace hB := hB.trans (bA.mono (Nat.le_trans (Nat.le_of_eq HBB.out.symm) hB.size))
          have hS2 := hB
          clear hS bA
          refine hK.out _ _ hS2 (fun hS => ?_)
          clear hK K hS2
          obtain ⟨g8, hg8⟩ : ∃ g, w6xcab.heap.size = g := ⟨_, rfl⟩
          replace hG8 : BB ≤ g8 := by omega
          have ne81 : g8 ≠ g1 := by omega
          have ne86 : g8 ≠ g6 := by omega
          rw [hg8] at own8 ⊢
          obtain ⟨w8xcb, hw8⟩ : ∃ V, World.alloc w6xcab (.cells #[] 26) = V := ⟨_, rfl⟩
          rw [hw8] at own8 hB hS hN1 hN6 ⊢
          clear hw8 hg8 lt1 lt6
          refine wpAnyH_ready (rs := [4]) (by kernel_rfl) (by simp) ?_
          refine (AllReadyH.cons (o := { dst := some 63, op := .call { callee := .builtin .append, args := #[.tmp 61, .tmp 62], argTypes := #[38, 38] }, type := 38, pos := "law.go:106", after := #[⟨2, .data⟩, ⟨3, .data⟩], guard := none }) rfl (fun K hK => ?_) AllReadyH.nil)
          have hr := run_append_owned_none (P := Tryz.prog) (w := w8xcb) BB 38 38 26 i0 3 Tryz.underlying38 hi _ 0 [] own8
          go_simp
          clear hr
          refine hK.out _ _ hS (fun hS => ?_)
          clear hK K
          refine wpAnyH_ready (rs := [7]) (by kernel_rfl) (by simp) ?_
          refine (AllReadyH.cons (o := { dst := some 66, op := .call { callee := .builtin .append, args := #[.tmp 63, .tmp 65], argTypes := #[38, 38] }, type := 38, pos := "law.go:106", after := #[⟨4, .data⟩, ⟨6, .data⟩, ⟨4, .chain⟩], guard := none }) rfl (fun K hK => ?_) AllReadyH.nil)
          refine step_append_lies _ rfl _ _ 38 rfl BB 26 i0 (.agg #[.bool false, .string ⟨#[]⟩, .string ⟨#[]⟩]) 3 40 Tryz.underlying38 hi hz0 hz1 hz2 rfl (by decide) _ 0 [] rfl own8 ⟨g6, 0, none⟩ 1 1 [.bool gb, .string S1, .string S2] rfl rfl (World.news_of_block hN6) (by simp [Value.oneCell']) Nat.zero_lt_one (by unfold maxLen; omega) (by omega) (Nat.le_trans (Nat.le_of_eq HBB.out.symm) hB.size) _ rfl ?_
          intro g7 c7 w7xcb hown7 hgrow7 hat7 hlt7
          have b7 : Below BB wd w7xcb := hB.grown hgrow7 (Nat.le_trans (Nat.le_of_eq HBB.out.symm) hB.size) (fun r hr => (own8.lt r hr).1)
          have own7 := hown7
          have lt1 := (Array.getElem?_eq_some_iff.1 hN1).1
          have ne71 : g7 ≠ g1 := by
            rcases hat7 with h | h
            · injection (show some g8 = some g7 from h) with h; omega
            · omega
          replace hN1 := (hgrow7.block g1 lt1 (fun e => by injection (show some g1 = some g8 from e) with e; omega)).trans hN1
          clear lt1
          replace hB := b7
          have hS2 := hB
          clear hS b7 hown7 hgrow7 hat7 hlt7 own8 hN6
          refine hK.out _ _ hS2 (fun hS => ?_)
          clear hK K hS2
          refine wpAnyH_take (i := 8) (v := ?vxcb8) rfl (by kernel_rfl) (by kernel_rfl) (by kernel_rfl) (fun _ _ _ h => h) (Or.inl ⟨by rfl, ?yxcb8⟩) hS ?rxcb8
          case yxcb8 => (intro w hS; go_simp; try with_reducible rfl)
          go_simp
          refine wpAnyH_ready (rs := [10]) (by kernel_rfl) (by simp) ?_
          refine (AllReadyH.cons (o := { dst := none, op := .store 49 (.tmp 10) (.tmp 67), type := 0, pos := "law.go:106", after := #[⟨9, .data⟩, ⟨8, .data⟩, ⟨7, .chain⟩, ⟨0, .phase⟩, ⟨1, .phase⟩, ⟨2, .phase⟩, ⟨3, .phase⟩, ⟨4, .phase⟩, ⟨5, .phase⟩, ⟨6, .phase⟩, ⟨7, .phase⟩, ⟨8, .phase⟩, ⟨9, .phase⟩], guard := none }) rfl (fun K hK => ?_) AllReadyH.nil)
          rw [if_pos (by rfl)]
          refine wp_store_row 49 (.tmp 10) (.tmp 67) rfl g1 (#[.slice pa 0 ca, .slice none 0 0, .slice (some ⟨g7, 0, none⟩) (0 + 1) c7]) (by first | rfl | (simp [Act.eval])) (by first | rfl | (simp [Act.eval])) 49 #[.slice none 0 0, .slice none 0 0, .slice none 0 0] hN1 (by kernel_rfl) (by simp) (by simp [Value.oneCell']) ?_
          replace hB := Below.setRow' hB hG1 (#[.slice pa 0 ca, .slice none 0 0, .slice (some ⟨g7, 0, none⟩) (0 + 1) c7])
          have hS2 := hB
          have hrow2 := setRow_heap _ _ _ (#[.slice pa 0 ca, .slice none 0 0, .slice (some ⟨g7, 0, none⟩) (0 + 1) c7]) _ _ hN1
          replace own7 := own_rowne own7 g1 (#[.slice pa 0 ca, .slice none 0 0, .slice (some ⟨g7, 0, none⟩) (0 + 1) c7]) ne71
          clear hS
          refine hK.out _ _ hS2 (fun hS => ?_)
          clear hK K hS2
          refine wpAnyH_done (by kernel_rfl) ?_ _
          go_wp2_with fail
          go_meet
          exact ⟨g1, some ⟨g7, 0, none⟩, c7, rfl, Lib.hid ⟨LWB.out.trans (hB.mono (Nat.le_trans LWB.out.size (Nat.le_of_eq HBB.out))), hrow2, own_LV (by first | (rw [List.length_append, List.length_map, HQ.out.2.2, flr_app]; exact own7) | exact own7)⟩⟩
    · obtain ⟨bg, c', e, hcc⟩ := own_cells hown hnz
      injection e with e1 e2 e3
      subst e1 e3
      have HGC := Lib.hid hcc
      clear hown hnil hcc
      refine wpAnyH_take (i := 0) (v := ?vy0) rfl (by kernel_rfl) (by kernel_rfl) (by kernel_rfl) (fun _ _ _ h => h) (Or.inl ⟨by rfl, ?yy0⟩) hS ?ry0
      case yy0 => (intro w hS; go_simp; try with_reducible rfl)
      refine wpAnyH_take (i := 1) (v := ?vy1) rfl (by kernel_rfl) (by kernel_rfl) (by kernel_rfl) (fun _ _ _ h => h) (Or.inl ⟨by rfl, ?yy1⟩) hS ?ry1
      case yy1 => (intro w hS; go_simp; try with_reducible rfl)
      refine wpAnyH_take (i := 3) (v := ?vy3) rfl (by kernel_rfl) (by kernel_rfl) (by kernel_rfl) (fun _ _ _ h => h) (Or.inl ⟨by rfl, ?yy3⟩) hS ?ry3
      case yy3 => (intro w hS; go_simp; try with_reducible rfl)
      refine wpAnyH_take (i := 5) (v := .agg (#[.bool gb, .string S1, .string S2])) rfl (by kernel_rfl) (by kernel_rfl) (by kernel_rfl) (fun _ _ _ h => h) (Or.inl ⟨by rfl, ?yy5⟩) hS ?ry5
      case yy5 => exact fun w' hS => exec_load_row w' 26 (.tmp 3) rfl w.heap.size (by first | rfl | (simp [Act.eval])) 26 (#[.bool gb, .string S1, .string S2]) (0, 0) _ ((hS.block _ (by rw [← HBB.out]; exact (Array.getElem?_eq_some_iff.1 HBX.out).1)).trans HBX.out) Tryz.underlying26 rfl (infoW3 gb S1 S2).out
      go_simp
      refine wpAnyH_ready (rs := [2, 6, 9]) (by kernel_rfl) (by simp) ?_
      refine (AllReadyH.cons (o := { dst := some 61, op := .buildSlice 38 0 #[], type := 38, pos := "law.go:106", after := #[], guard := none }) rfl (fun K hK => ?_) (AllReadyH.cons (o := { dst := some 65, op := .buildSlice 38 1 #[(0, .tmp 64)], type := 38, pos := "law.go:106", after := #[⟨5, .data⟩], guard := none }) rfl (fun K hK => ?_) (AllReadyH.cons (o := { dst := some 10, op := .alloc 49, type := 0, pos := "law.go:106", after := #[], guard := none }) rfl (fun K hK => ?_) AllReadyH.nil)))
      · go_simp
        have own8 := own_emptyR wd BB (Nat.le_trans (Nat.le_of_eq HBB.out.symm) hB.size)
        have hG8 : BB ≤ wd.heap.size := Nat.le_trans (Nat.le_of_eq HBB.out.symm) hB.size
        have bA := (Below.refl wd.heap.size wd).alloc (Nat.le_refl _) (.cells #[] 26)
        replace hB := hB.trans (bA.mono (Nat.le_trans (Nat.le_of_eq HBB.out.symm) hB.size))
        have hS2 := hB
        clear hS bA
        refine hK.out _ _ hS2 (fun hS => ?_)
        clear hK K hS2
        obtain ⟨g8, hg8⟩ : ∃ g, wd.heap.size = g := ⟨_, rfl⟩
        replace hG8 : BB ≤ g8 := by omega
        rw [hg8] at own8 ⊢
        obtain ⟨w8y, hw8⟩ : ∃ V, World.alloc wd (.cells #[] 26) = V := ⟨_, rfl⟩
        rw [hw8] at own8 hB hS  ⊢
        clear hw8 hg8 
        refine wpAnyH_ready (rs := [4, 6, 9]) (by kernel_rfl) (by simp) ?_
        refine (AllReadyH.cons (o := { dst := some 63, op := .call { callee := .builtin .append, args := #[.tmp 61, .tmp 62], argTypes := #[38, 38] }, type := 38, pos := "law.go:106", after := #[⟨2, .data⟩, ⟨3, .data⟩], guard := none }) rfl (fun K hK => ?_) (AllReadyH.cons (o := { dst := some 65, op := .buildSlice 38 1 #[(0, .tmp 64)], type := 38, pos := "law.go:106", after := #[⟨5, .data⟩], guard := none }) rfl (fun K hK => ?_) (AllReadyH.cons (o := { dst := some 10, op := .alloc 49, type := 0, pos := "law.go:106", after := #[], guard := none }) rfl (fun K hK => ?_) AllReadyH.nil)))
        · refine step_append_lies _ rfl _ _ 38 rfl BB 26 i0 (.agg #[.bool false, .string ⟨#[]⟩, .string ⟨#[]⟩]) 3 40 Tryz.underlying38 hi hz0 hz1 hz2 rfl (by decide) _ 0 [] rfl own8 ⟨bg, 0, none⟩ nQ cg (flr (Q.map qg)) rfl (by rw [flr_len, List.length_map, HQ.out.2.2]) (fun j u hj => by rw [Lib.add_plain, Nat.zero_add]; exact (hB.cell (p := ⟨bg, j, none⟩) (by rw [← HBB.out]; exact World.block_lt_of_cell? _ _ (HGC.out j u hj))).trans (HGC.out j u hj)) (flr_one _) (Nat.pos_of_ne_zero hnz) (by unfold maxLen; omega) (by omega) (Nat.le_trans (Nat.le_of_eq HBB.out.symm) hB.size) _ rfl ?_
          intro g9 c9 w9ya hown9 hgrow9 hat9 hlt9
          have b9 : Below BB wd w9ya := hB.grown hgrow9 (Nat.le_trans (Nat.le_of_eq HBB.out.symm) hB.size) (fun r hr => (own8.lt r hr).1)
          simp only [Nat.zero_add, List.nil_append] at hown9 ⊢
          have own9 := hown9
          replace hB := b9
          have hS2 := hB
          clear hS b9 hown9 hgrow9 hat9 hlt9 own8
          refine hK.out _ _ hS2 (fun hS => ?_)
          clear hK K hS2
          refine wpAnyH_ready (rs := [6, 9]) (by kernel_rfl) (by simp) ?_
          refine (AllReadyH.cons (o := { dst := some 65, op := .buildSlice 38 1 #[(0, .tmp 64)], type := 38, pos := "law.go:106", after := #[⟨5, .data⟩], guard := none }) rfl (fun K hK => ?_) (AllReadyH.cons (o := { dst := some 10, op := .alloc 49, type := 0, pos := "law.go:106", after := #[], guard := none }) rfl (fun K hK => ?_) AllReadyH.nil))
          · go_simp
            have hN6 := heap_alloc_new w9ya (.cells #[.bool gb, .string S1, .string S2] 26)
            have hG6 : BB ≤ w9ya.heap.size := Nat.le_trans (Nat.le_of_eq HBB.out.symm) hB.size
            have bA := (Below.refl w9ya.heap.size w9ya).alloc (Nat.le_refl _) (.cells #[.bool gb, .string S1, .string S2] 26)
            have lt9 := own_lt own9
            replace own9 := own_stay own9 bA
            replace hB := hB.trans (bA.mono (Nat.le_trans (Nat.le_of_eq HBB.out.symm) hB.size))
            have hS2 := hB
            clear hS bA
            refine hK.out _ _ hS2 (fun hS => ?_)
            clear hK K hS2
            obtain ⟨g6, hg6⟩ : ∃ g, w9ya.heap.size = g := ⟨_, rfl⟩
            replace hG6 : BB ≤ g6 := by omega
            have ne96 : g9 ≠ g6 := by omega
            rw [hg6] at hN6 ⊢
            obtain ⟨w6yaa, hw6⟩ : ∃ V, World.alloc w9ya (.cells #[.bool gb, .string S1, .string S2] 26) = V := ⟨_, rfl⟩
            rw [hw6] at hN6 hB hS own9 ⊢
            clear hw6 hg6 lt9
            refine wpAnyH_ready (rs := [7, 9]) (by kernel_rfl) (by simp) ?_
            refine (AllReadyH.cons (o := { dst := some 66, op := .call { callee := .builtin .append, args := #[.tmp 63, .tmp 65], argTypes := #[38, 38] }, type := 38, pos := "law.go:106", after := #[⟨4, .data⟩, ⟨6, .data⟩, ⟨4, .chain⟩], guard := none }) rfl (fun K hK => ?_) (AllReadyH.cons (o := { dst := some 10, op := .alloc 49, type := 0, pos := "law.go:106", after := #[], guard := none }) rfl (fun K hK => ?_) AllReadyH.nil))
            · refine step_append_lies _ rfl _ _ 38 rfl BB 26 i0 (.agg #[.bool false, .string ⟨#[]⟩, .string ⟨#[]⟩]) 3 40 Tryz.underlying38 hi hz0 hz1 hz2 rfl (by decide) _ nQ (flr (Q.map qg)) rfl own9 ⟨g6, 0, none⟩ 1 1 [.bool gb, .string S1, .string S2] rfl rfl (World.news_of_block hN6) (by simp [Value.oneCell']) Nat.zero_lt_one (by unfold maxLen; omega) (by omega) (Nat.le_trans (Nat.le_of_eq HBB.out.symm) hB.size) _ rfl ?_
              intro g7 c7 w7yaaa hown7 hgrow7 hat7 hlt7
              have b7 : Below BB wd w7yaaa := hB.grown hgrow7 (Nat.le_trans (Nat.le_of_eq HBB.out.symm) hB.size) (fun r hr => (own9.lt r hr).1)
              have own7 := hown7
              replace hB := b7
              have hS2 := hB
              clear hS b7 hown7 hgrow7 hat7 hlt7 own9 hN6
              refine hK.out _ _ hS2 (fun hS => ?_)
              clear hK K hS2
              refine wpAnyH_take (i := 8) (v := ?vyaaaa8) rfl (by kernel_rfl) (by kernel_rfl) (by kernel_rfl) (fun _ _ _ h => h) (Or.inl ⟨by rfl, ?yyaaaa8⟩) hS ?ryaaaa8
              case yyaaaa8 => (intro w hS; go_simp; try with_reducible rfl)
              go_simp
              refine wpAnyH_ready (rs := [9]) (by kernel_rfl) (by simp) ?_
              refine (AllReadyH.cons (o := { dst := some 10, op := .alloc 49, type := 0, pos := "law.go:106", after := #[], guard := none }) rfl (fun K hK => ?_) AllReadyH.nil)
              go_simp
              have hN1 := heap_alloc_new w7yaaa (.cells #[.slice none 0 0, .slice none 0 0, .slice none 0 0] 49)
              have hG1 : BB ≤ w7yaaa.heap.size := Nat.le_trans (Nat.le_of_eq HBB.out.symm) hB.size
              have bA := (Below.refl w7yaaa.heap.size w7yaaa).alloc (Nat.le_refl _) (.cells #[.slice none 0 0, .slice none 0 0, .slice none 0 0] 49)
              have lt7 := own_lt own7
              replace own7 := own_stay own7 bA
              replace hB := hB.trans (bA.mono (Nat.le_trans (Nat.le_of_eq HBB.out.symm) hB.size))
              have hS2 := hB
              clear hS bA
              refine hK.out _ _ hS2 (fun hS => ?_)
              clear hK K hS2
              obtain ⟨g1, hg1⟩ : ∃ g, w7yaaa.heap.size = g := ⟨_, rfl⟩
              replace hG1 : BB ≤ g1 := by omega
              have ne71 : g7 ≠ g1 := by omega
              rw [hg1] at hN1 ⊢
              obtain ⟨w1yaaaa, hw1⟩ : ∃ V, World.alloc w7yaaa (.cells #[.slice none 0 0, .slice none 0 0, .slice none 0 0] 49) = V := ⟨_, rfl⟩
              rw [hw1] at hN1 hB hS own7 ⊢
              clear hw1 hg1 lt7
              refine wpAnyH_ready (rs := [10]) (by kernel_rfl) (by simp) ?_
              refine (AllReadyH.cons (o := { dst := none, op := .store 49 (.tmp 10) (.tmp 67), type := 0, pos := "law.go:106", after := #[⟨9, .data⟩, ⟨8, .data⟩, ⟨7, .chain⟩, ⟨0, .phase⟩, ⟨1, .phase⟩, ⟨2, .phase⟩, ⟨3, .phase⟩, ⟨4, .phase⟩, ⟨5, .phase⟩, ⟨6, .phase⟩, ⟨7, .phase⟩, ⟨8, .phase⟩, ⟨9, .phase⟩], guard := none }) rfl (fun K hK => ?_) AllReadyH.nil)
              rw [if_pos (by rfl)]
              refine wp_store_row 49 (.tmp 10) (.tmp 67) rfl g1 (#[.slice pa nQ ca, .slice (some ⟨bg, 0, none⟩) nQ cg, .slice (some ⟨g7, 0, none⟩) (nQ + 1) c7]) (by first | rfl | (simp [Act.eval])) (by first | rfl | (simp [Act.eval])) 49 #[.slice none 0 0, .slice none 0 0, .slice none 0 0] hN1 (by kernel_rfl) (by simp) (by simp [Value.oneCell']) ?_
              replace hB := Below.setRow' hB hG1 (#[.slice pa nQ ca, .slice (some ⟨bg, 0, none⟩) nQ cg, .slice (some ⟨g7, 0, none⟩) (nQ + 1) c7])
              have hS2 := hB
              have hrow2 := setRow_heap _ _ _ (#[.slice pa nQ ca, .slice (some ⟨bg, 0, none⟩) nQ cg, .slice (some ⟨g7, 0, none⟩) (nQ + 1) c7]) _ _ hN1
              replace own7 := own_rowne own7 g1 (#[.slice pa nQ ca, .slice (some ⟨bg, 0, none⟩) nQ cg, .slice (some ⟨g7, 0, none⟩) (nQ + 1) c7]) ne71
              clear hS
              refine hK.out _ _ hS2 (fun hS => ?_)
              clear hK K hS2
              refine wpAnyH_done (by kernel_rfl) ?_ _
              go_wp2_with fail
              go_meet
              exact ⟨g1, some ⟨g7, 0, none⟩, c7, rfl, Lib.hid ⟨LWB.out.trans (hB.mono (Nat.le_trans LWB.out.size (Nat.le_of_eq HBB.out))), hrow2, own_LV (by first | (rw [List.length_append, List.length_map, HQ.out.2.2, flr_app]; exact own7) | exact own7)⟩⟩
            · go_simp
              have hN1 := heap_alloc_new w6yaa (.cells #[.slice none 0 0, .slice none 0 0, .slice none 0 0] 49)
              have hG1 : BB ≤ w6yaa.heap.size := Nat.le_trans (Nat.le_of_eq HBB.out.symm) hB.size
              have bA := (Below.refl w6yaa.heap.size w6yaa).alloc (Nat.le_refl _) (.cells #[.slice none 0 0, .slice none 0 0, .slice none 0 0] 49)
              have lt9 := own_lt own9
              replace own9 := own_stay own9 bA
              have lt6 := (Array.getElem?_eq_some_iff.1 hN6).1
              replace hN6 := (bA.block _ lt6).trans hN6
              replace hB := hB.trans (bA.mono (Nat.le_trans (Nat.le_of_eq HBB.out.symm) hB.size))
              have hS2 := hB
              clear hS bA
              refine hK.out _ _ hS2 (fun hS => ?_)
              clear hK K hS2
              obtain ⟨g1, hg1⟩ : ∃ g, w6yaa.heap.size = g := ⟨_, rfl⟩
              replace hG1 : BB ≤ g1 := by omega
              have ne91 : g9 ≠ g1 := by omega
              rw [hg1] at hN1 ⊢
              obtain ⟨w1yaaaa, hw1⟩ : ∃ V, World.alloc w6yaa (.cells #[.slice none 0 0, .slice none 0 0, .slice none 0 0] 49) = V := ⟨_, rfl⟩
              rw [hw1] at hN1 hB hS own9 hN6 ⊢
              clear hw1 hg1 lt9 lt6
              refine wpAnyH_ready (rs := [7]) (by kernel_rfl) (by simp) ?_
              refine (AllReadyH.cons (o := { dst := some 66, op := .call { callee := .builtin .append, args := #[.tmp 63, .tmp 65], argTypes := #[38, 38] }, type := 38, pos := "law.go:106", after := #[⟨4, .data⟩, ⟨6, .data⟩, ⟨4, .chain⟩], guard := none }) rfl (fun K hK => ?_) AllReadyH.nil)
              refine step_append_lies _ rfl _ _ 38 rfl BB 26 i0 (.agg #[.bool false, .string ⟨#[]⟩, .string ⟨#[]⟩]) 3 40 Tryz.underlying38 hi hz0 hz1 hz2 rfl (by decide) _ nQ (flr (Q.map qg)) rfl own9 ⟨g6, 0, none⟩ 1 1 [.bool gb, .string S1, .string S2] rfl rfl (World.news_of_block hN6) (by simp [Value.oneCell']) Nat.zero_lt_one (by unfold maxLen; omega) (by omega) (Nat.le_trans (Nat.le_of_eq HBB.out.symm) hB.size) _ rfl ?_
              intro g7 c7 w7yaaab hown7 hgrow7 hat7 hlt7
              have b7 : Below BB wd w7yaaab := hB.grown hgrow7 (Nat.le_trans (Nat.le_of_eq HBB.out.symm) hB.size) (fun r hr => (own9.lt r hr).1)
              have own7 := hown7
              have lt1 := (Array.getElem?_eq_some_iff.1 hN1).1
              have ne71 : g7 ≠ g1 := by
                rcases hat7 with h | h
                · injection (show some g9 = some g7 from h) with h; omega
                · omega
              replace hN1 := (hgrow7.block g1 lt1 (fun e => by injection (show some g1 = some g9 from e) with e; omega)).trans hN1
              clear lt1
              replace hB := b7
              have hS2 := hB
              clear hS b7 hown7 hgrow7 hat7 hlt7 own9 hN6
              refine hK.out _ _ hS2 (fun hS => ?_)
              clear hK K hS2
              refine wpAnyH_take (i := 8) (v := ?vyaaab8) rfl (by kernel_rfl) (by kernel_rfl) (by kernel_rfl) (fun _ _ _ h => h) (Or.inl ⟨by rfl, ?yyaaab8⟩) hS ?ryaaab8
              case yyaaab8 => (intro w hS; go_simp; try with_reducible rfl)
              go_simp
              refine wpAnyH_ready (rs := [10]) (by kernel_rfl) (by simp) ?_
              refine (AllReadyH.cons (o := { dst := none, op := .store 49 (.tmp 10) (.tmp 67), type := 0, pos := "law.go:106", after := #[⟨9, .data⟩, ⟨8, .data⟩, ⟨7, .chain⟩, ⟨0, .phase⟩, ⟨1, .phase⟩, ⟨2, .phase⟩, ⟨3, .phase⟩, ⟨4, .phase⟩, ⟨5, .phase⟩, ⟨6, .phase⟩, ⟨7, .phase⟩, ⟨8, .phase⟩, ⟨9, .phase⟩], guard := none }) rfl (fun K hK => ?_) AllReadyH.nil)
              rw [if_pos (by rfl)]
              refine wp_store_row 49 (.tmp 10) (.tmp 67) rfl g1 (#[.slice pa nQ ca, .slice (some ⟨bg, 0, none⟩) nQ cg, .slice (some ⟨g7, 0, none⟩) (nQ + 1) c7]) (by first | rfl | (simp [Act.eval])) (by first | rfl | (simp [Act.eval])) 49 #[.slice none 0 0, .slice none 0 0, .slice none 0 0] hN1 (by kernel_rfl) (by simp) (by simp [Value.oneCell']) ?_
              replace hB := Below.setRow' hB hG1 (#[.slice pa nQ ca, .slice (some ⟨bg, 0, none⟩) nQ cg, .slice (some ⟨g7, 0, none⟩) (nQ + 1) c7])
              have hS2 := hB
              have hrow2 := setRow_heap _ _ _ (#[.slice pa nQ ca, .slice (some ⟨bg, 0, none⟩) nQ cg, .slice (some ⟨g7, 0, none⟩) (nQ + 1) c7]) _ _ hN1
              replace own7 := own_rowne own7 g1 (#[.slice pa nQ ca, .slice (some ⟨bg, 0, none⟩) nQ cg, .slice (some ⟨g7, 0, none⟩) (nQ + 1) c7]) ne71
              clear hS
              refine hK.out _ _ hS2 (fun hS => ?_)
              clear hK K hS2
              refine wpAnyH_done (by kernel_rfl) ?_ _
              go_wp2_with fail
              go_meet
              exact ⟨g1, some ⟨g7, 0, none⟩, c7, rfl, Lib.hid ⟨LWB.out.trans (hB.mono (Nat.le_trans LWB.out.size (Nat.le_of_eq HBB.out))), hrow2, own_LV (by first | (rw [List.length_append, List.length_map, HQ.out.2.2, flr_app]; exact own7) | exact own7)⟩⟩
          · go_simp
            have hN1 := heap_alloc_new w9ya (.cells #[.slice none 0 0, .slice none 0 0, .slice none 0 0] 49)
            have hG1 : BB ≤ w9ya.heap.size := Nat.le_trans (Nat.le_of_eq HBB.out.symm) hB.size
            have bA := (Below.refl w9ya.heap.size w9ya).alloc (Nat.le_refl _) (.cells #[.slice none 0 0, .slice none 0 0, .slice none 0 0] 49)
            have lt9 := own_lt own9
            replace own9 := own_stay own9 bA
            replace hB := hB.trans (bA.mono (Nat.le_trans (Nat.le_of_eq HBB.out.symm) hB.size))
            have hS2 := hB
            clear hS bA
            refine hK.out _ _ hS2 (fun hS => ?_)
            clear hK K hS2
            obtain ⟨g1, hg1⟩ : ∃ g, w9ya.heap.size = g := ⟨_, rfl⟩
            replace hG1 : BB ≤ g1 := by omega
            have ne91 : g9 ≠ g1 := by omega
            rw [hg1] at hN1 ⊢
            obtain ⟨w1yaaab, hw1⟩ : ∃ V, World.alloc w9ya (.cells #[.slice none 0 0, .slice none 0 0, .slice none 0 0] 49) = V := ⟨_, rfl⟩
            rw [hw1] at hN1 hB hS own9 ⊢
            clear hw1 hg1 lt9
            refine wpAnyH_ready (rs := [6]) (by kernel_rfl) (by simp) ?_
            refine (AllReadyH.cons (o := { dst := some 65, op := .buildSlice 38 1 #[(0, .tmp 64)], type := 38, pos := "law.go:106", after := #[⟨5, .data⟩], guard := none }) rfl (fun K hK => ?_) AllReadyH.nil)
            go_simp
            have hN6 := heap_alloc_new w1yaaab (.cells #[.bool gb, .string S1, .string S2] 26)
            have hG6 : BB ≤ w1yaaab.heap.size := Nat.le_trans (Nat.le_of_eq HBB.out.symm) hB.size
            have bA := (Below.refl w1yaaab.heap.size w1yaaab).alloc (Nat.le_refl _) (.cells #[.bool gb, .string S1, .string S2] 26)
            have lt9 := own_lt own9
            replace own9 := own_stay own9 bA
            have lt1 := (Array.getElem?_eq_some_iff.1 hN1).1
            replace hN1 := (bA.block _ lt1).trans hN1
            replace hB := hB.trans (bA.mono (Nat.le_trans (Nat.le_of_eq HBB.out.symm) hB.size))
            have hS2 := hB
            clear hS bA
            refine hK.out _ _ hS2 (fun hS => ?_)
            clear hK K hS2
            obtain ⟨g6, hg6⟩ : ∃ g, w1yaaab.heap.size = g := ⟨_, rfl⟩
            replace hG6 : BB ≤ g6 := by omega
            have ne96 : g9 ≠ g6 := by omega
            rw [hg6] at hN6 ⊢
            obtain ⟨w6yaab, hw6⟩ : ∃ V, World.alloc w1yaaab (.cells #[.bool gb, .string S1, .string S2] 26) = V := ⟨_, rfl⟩
            rw [hw6] at hN6 hB hS own9 hN1 ⊢
            clear hw6 hg6 lt9 lt1
            refine wpAnyH_ready (rs := [7]) (by kernel_rfl) (by simp) ?_
            refine (AllReadyH.cons (o := { dst := some 66, op := .call { callee := .builtin .append, args := #[.tmp 63, .tmp 65], argTypes := #[38, 38] }, type := 38, pos := "law.go:106", after := #[⟨4, .data⟩, ⟨6, .data⟩, ⟨4, .chain⟩], guard := none }) rfl (fun K hK => ?_) AllReadyH.nil)
            refine step_append_lies _ rfl _ _ 38 rfl BB 26 i0 (.agg #[.bool false, .string ⟨#[]⟩, .string ⟨#[]⟩]) 3 40 Tryz.underlying38 hi hz0 hz1 hz2 rfl (by decide) _ nQ (flr (Q.map qg)) rfl own9 ⟨g6, 0, none⟩ 1 1 [.bool gb, .string S1, .string S2] rfl rfl (World.news_of_block hN6) (by simp [Value.oneCell']) Nat.zero_lt_one (by unfold maxLen; omega) (by omega) (Nat.le_trans (Nat.le_of_eq HBB.out.symm) hB.size) _ rfl ?_
            intro g7 c7 w7yaab hown7 hgrow7 hat7 hlt7
            have b7 : Below BB wd w7yaab := hB.grown hgrow7 (Nat.le_trans (Nat.le_of_eq HBB.out.symm) hB.size) (fun r hr => (own9.lt r hr).1)
            have own7 := hown7
            have lt1 := (Array.getElem?_eq_some_iff.1 hN1).1
            have ne71 : g7 ≠ g1 := by
              rcases hat7 with h | h
              · injection (show some g9 = some g7 from h) with h; omega
              · omega
            replace hN1 := (hgrow7.block g1 lt1 (fun e => by injection (show some g1 = some g9 from e) with e; omega)).trans hN1
            clear lt1
            replace hB := b7
            have hS2 := hB
            clear hS b7 hown7 hgrow7 hat7 hlt7 own9 hN6
            refine hK.out _ _ hS2 (fun hS => ?_)
            clear hK K hS2
            refine wpAnyH_take (i := 8) (v := ?vyaab8) rfl (by kernel_rfl) (by kernel_rfl) (by kernel_rfl) (fun _ _ _ h => h) (Or.inl ⟨by rfl, ?yyaab8⟩) hS ?ryaab8
            case yyaab8 => (intro w hS; go_simp; try with_reducible rfl)
            go_simp
            refine wpAnyH_ready (rs := [10]) (by kernel_rfl) (by simp) ?_
            refine (AllReadyH.cons (o := { dst := none, op := .store 49 (.tmp 10) (.tmp 67), type := 0, pos := "law.go:106", after := #[⟨9, .data⟩, ⟨8, .data⟩, ⟨7, .chain⟩, ⟨0, .phase⟩, ⟨1, .phase⟩, ⟨2, .phase⟩, ⟨3, .phase⟩, ⟨4, .phase⟩, ⟨5, .phase⟩, ⟨6, .phase⟩, ⟨7, .phase⟩, ⟨8, .phase⟩, ⟨9, .phase⟩], guard := none }) rfl (fun K hK => ?_) AllReadyH.nil)
            rw [if_pos (by rfl)]
            refine wp_store_row 49 (.tmp 10) (.tmp 67) rfl g1 (#[.slice pa nQ ca, .slice (some ⟨bg, 0, none⟩) nQ cg, .slice (some ⟨g7, 0, none⟩) (nQ + 1) c7]) (by first | rfl | (simp [Act.eval])) (by first | rfl | (simp [Act.eval])) 49 #[.slice none 0 0, .slice none 0 0, .slice none 0 0] hN1 (by kernel_rfl) (by simp) (by simp [Value.oneCell']) ?_
            replace hB := Below.setRow' hB hG1 (#[.slice pa nQ ca, .slice (some ⟨bg, 0, none⟩) nQ cg, .slice (some ⟨g7, 0, none⟩) (nQ + 1) c7])
            have hS2 := hB
            have hrow2 := setRow_heap _ _ _ (#[.slice pa nQ ca, .slice (some ⟨bg, 0, none⟩) nQ cg, .slice (some ⟨g7, 0, none⟩) (nQ + 1) c7]) _ _ hN1
            replace own7 := own_rowne own7 g1 (#[.slice pa nQ ca, .slice (some ⟨bg, 0, none⟩) nQ cg, .slice (some ⟨g7, 0, none⟩) (nQ + 1) c7]) ne71
            clear hS
            refine hK.out _ _ hS2 (fun hS => ?_)
            clear hK K hS2
            refine wpAnyH_done (by kernel_rfl) ?_ _
            go_wp2_with fail
            go_meet
            exact ⟨g1, some ⟨g7, 0, none⟩, c7, rfl, Lib.hid ⟨LWB.out.trans (hB.mono (Nat.le_trans LWB.out.size (Nat.le_of_eq HBB.out))), hrow2, own_LV (by first | (rw [List.length_append, List.length_map, HQ.out.2.2, flr_app]; exact own7) | exact own7)⟩⟩
        · go_simp
          have hN6 := heap_alloc_new w8y (.cells #[.bool gb, .string S1, .string S2] 26)
          have hG6 : BB ≤ w8y.heap.size := Nat.le_trans (Nat.le_of_eq HBB.out.symm) hB.size
          have bA := (Below.refl w8y.heap.size w8y).alloc (Nat.le_refl _) (.cells #[.bool gb, .string S1, .string S2] 26)
          have lt8 := own_lt own8
          replace own8 := own_stay own8 bA
          replace hB := hB.trans (bA.mono (Nat.le_trans (Nat.le_of_eq HBB.out.symm) hB.size))
          have hS2 := hB
          clear hS bA
          refine hK.out _ _ hS2 (fun hS => ?_)
          clear hK K hS2
          obtain ⟨g6, hg6⟩ : ∃ g, w8y.heap.size = g := ⟨_, rfl⟩
          replace hG6 : BB ≤ g6 := by omega
          have ne86 : g8 ≠ g6 := by omega
          rw [hg6] at hN6 ⊢
          obtain ⟨w6yaab, hw6⟩ : ∃ V, World.alloc w8y (.cells #[.bool gb, .string S1, .string S2] 26) = V := ⟨_, rfl⟩
          rw [hw6] at hN6 hB hS own8 ⊢
          clear hw6 hg6 lt8
          refine wpAnyH_ready (rs := [4, 9]) (by kernel_rfl) (by simp) ?_
          refine (AllReadyH.cons (o := { dst := some 63, op := .call { callee := .builtin .append, args := #[.tmp 61, .tmp 62], argTypes := #[38, 38] }, type := 38, pos := "law.go:106", after := #[⟨2, .data⟩, ⟨3, .data⟩], guard := none }) rfl (fun K hK => ?_) (AllReadyH.cons (o := { dst := some 10, op := .alloc 49, type := 0, pos := "law.go:106", after := #[], guard := none }) rfl (fun K hK => ?_) AllReadyH.nil))
          · refine step_append_lies _ rfl _ _ 38 rfl BB 26 i0 (.agg #[.bool false, .string ⟨#[]⟩, .string ⟨#[]⟩]) 3 40 Tryz.underlying38 hi hz0 hz1 hz2 rfl (by decide) _ 0 [] rfl own8 ⟨bg, 0, none⟩ nQ cg (flr (Q.map qg)) rfl (by rw [flr_len, List.length_map, HQ.out.2.2]) (fun j u hj => by rw [Lib.add_plain, Nat.zero_add]; exact (hB.cell (p := ⟨bg, j, none⟩) (by rw [← HBB.out]; exact World.block_lt_of_cell? _ _ (HGC.out j u hj))).trans (HGC.out j u hj)) (flr_one _) (Nat.pos_of_ne_zero hnz) (by unfold maxLen; omega) (by omega) (Nat.le_trans (Nat.le_of_eq HBB.out.symm) hB.size) _ rfl ?_
            intro g9 c9 w9yab hown9 hgrow9 hat9 hlt9
            have b9 : Below BB wd w9yab := hB.grown hgrow9 (Nat.le_trans (Nat.le_of_eq HBB.out.symm) hB.size) (fun r hr => (own8.lt r hr).1)
            simp only [Nat.zero_add, List.nil_append] at hown9 ⊢
            have own9 := hown9
            have lt6 := (Array.getElem?_eq_some_iff.1 hN6).1
            have ne96 : g9 ≠ g6 := by
              rcases hat9 with h | h
              · injection (show some g8 = some g9 from h) with h; omega
              · omega
            replace hN6 := (hgrow9.block g6 lt6 (fun e => by injection (show some g6 = some g8 from e) with e; omega)).trans hN6
            clear lt6
            replace hB := b9
            have hS2 := hB
            clear hS b9 hown9 hgrow9 hat9 hlt9 own8
            refine hK.out _ _ hS2 (fun hS => ?_)
            clear hK K hS2
            refine wpAnyH_ready (rs := [7, 9]) (by kernel_rfl) (by simp) ?_
            refine (AllReadyH.cons (o := { dst := some 66, op := .call { callee := .builtin .append, args := #[.tmp 63, .tmp 65], argTypes := #[38, 38] }, type := 38, pos := "law.go:106", after := #[⟨4, .data⟩, ⟨6, .data⟩, ⟨4, .chain⟩], guard := none }) rfl (fun K hK => ?_) (AllReadyH.cons (o := { dst := some 10, op := .alloc 49, type := 0, pos := "law.go:106", after := #[], guard := none }) rfl (fun K hK => ?_) AllReadyH.nil))
            · refine step_append_lies _ rfl _ _ 38 rfl BB 26 i0 (.agg #[.bool false, .string ⟨#[]⟩, .string ⟨#[]⟩]) 3 40 Tryz.underlying38 hi hz0 hz1 hz2 rfl (by decide) _ nQ (flr (Q.map qg)) rfl own9 ⟨g6, 0, none⟩ 1 1 [.bool gb, .string S1, .string S2] rfl rfl (World.news_of_block hN6) (by simp [Value.oneCell']) Nat.zero_lt_one (by unfold maxLen; omega) (by omega) (Nat.le_trans (Nat.le_of_eq HBB.out.symm) hB.size) _ rfl ?_
              intro g7 c7 w7yaba hown7 hgrow7 hat7 hlt7
              have b7 : Below BB wd w7yaba := hB.grown hgrow7 (Nat.le_trans (Nat.le_of_eq HBB.out.symm) hB.size) (fun r hr => (own9.lt r hr).1)
              have own7 := hown7
              replace hB := b7
              have hS2 := hB
              clear hS b7 hown7 hgrow7 hat7 hlt7 own9 hN6
              refine hK.out _ _ hS2 (fun hS => ?_)
              clear hK K hS2
              refine wpAnyH_take (i := 8) (v := ?vyabaa8) rfl (by kernel_rfl) (by kernel_rfl) (by kernel_rfl) (fun _ _ _ h => h) (Or.inl ⟨by rfl, ?yyabaa8⟩) hS ?ryabaa8
              case yyabaa8 => (intro w hS; go_simp; try with_reducible rfl)
              go_simp
              refine wpAnyH_ready (rs := [9]) (by kernel_rfl) (by simp) ?_
              refine (AllReadyH.cons (o := { dst := some 10, op := .alloc 49, type := 0, pos := "law.go:106", after := #[], guard := none }) rfl (fun K hK => ?_) AllReadyH.nil)
              go_simp
              have hN1 := heap_alloc_new w7yaba (.cells #[.slice none 0 0, .slice none 0 0, .slice none 0 0] 49)
              have hG1 : BB ≤ w7yaba.heap.size := Nat.le_trans (Nat.le_of_eq HBB.out.symm) hB.size
              have bA := (Below.refl w7yaba.heap.size w7yaba).alloc (Nat.le_refl _) (.cells #[.slice none 0 0, .slice none 0 0, .slice none 0 0] 49)
              have lt7 := own_lt own7
              replace own7 := own_stay own7 bA
              replace hB := hB.trans (bA.mono (Nat.le_trans (Nat.le_of_eq HBB.out.symm) hB.size))
              have hS2 := hB
              clear hS bA
              refine hK.out _ _ hS2 (fun hS => ?_)
              clear hK K hS2
              obtain ⟨g1, hg1⟩ : ∃ g, w7yaba.heap.size = g := ⟨_, rfl⟩
              replace hG1 : BB ≤ g1 := by omega
              have ne71 : g7 ≠ g1 := by omega
              rw [hg1] at hN1 ⊢
              obtain ⟨w1yabaa, hw1⟩ : ∃ V, World.alloc w7yaba (.cells #[.slice none 0 0, .slice none 0 0, .slice none 0 0] 49) = V := ⟨_, rfl⟩
              rw [hw1] at hN1 hB hS own7 ⊢
              clear hw1 hg1 lt7
              refine wpAnyH_ready (rs := [10]) (by kernel_rfl) (by simp) ?_
              refine (AllReadyH.cons (o := { dst := none, op := .store 49 (.tmp 10) (.tmp 67), type := 0, pos := "law.go:106", after := #[⟨9, .data⟩, ⟨8, .data⟩, ⟨7, .chain⟩, ⟨0, .phase⟩, ⟨1, .phase⟩, ⟨2, .phase⟩, ⟨3, .phase⟩, ⟨4, .phase⟩, ⟨5, .phase⟩, ⟨6, .phase⟩, ⟨7, .phase⟩, ⟨8, .phase⟩, ⟨9, .phase⟩], guard := none }) rfl (fun K hK => ?_) AllReadyH.nil)
              rw [if_pos (by rfl)]
              refine wp_store_row 49 (.tmp 10) (.tmp 67) rfl g1 (#[.slice pa nQ ca, .slice (some ⟨bg, 0, none⟩) nQ cg, .slice (some ⟨g7, 0, none⟩) (nQ + 1) c7]) (by first | rfl | (simp [Act.eval])) (by first | rfl | (simp [Act.eval])) 49 #[.slice none 0 0, .slice none 0 0, .slice none 0 0] hN1 (by kernel_rfl) (by simp) (by simp [Value.oneCell']) ?_
              replace hB := Below.setRow' hB hG1 (#[.slice pa nQ ca, .slice (some ⟨bg, 0, none⟩) nQ cg, .slice (some ⟨g7, 0, none⟩) (nQ + 1) c7])
              have hS2 := hB
              have hrow2 := setRow_heap _ _ _ (#[.slice pa nQ ca, .slice (some ⟨bg, 0, none⟩) nQ cg, .slice (some ⟨g7, 0, none⟩) (nQ + 1) c7]) _ _ hN1
              replace own7 := own_rowne own7 g1 (#[.slice pa nQ ca, .slice (some ⟨bg, 0, none⟩) nQ cg, .slice (some ⟨g7, 0, none⟩) (nQ + 1) c7]) ne71
              clear hS
              refine hK.out _ _ hS2 (fun hS => ?_)
              clear hK K hS2
              refine wpAnyH_done (by kernel_rfl) ?_ _
              go_wp2_with fail
              go_meet
              exact ⟨g1, some ⟨g7, 0, none⟩, c7, rfl, Lib.hid ⟨LWB.out.trans (hB.mono (Nat.le_trans LWB.out.size (Nat.le_of_eq HBB.out))), hrow2, own_LV (by first | (rw [List.length_append, List.length_map, HQ.out.2.2, flr_app]; exact own7) | exact own7)⟩⟩
            · go_simp
              have hN1 := heap_alloc_new w9yab (.cells #[.slice none 0 0, .slice none 0 0, .slice none 0 0] 49)
              have hG1 : BB ≤ w9yab.heap.size := Nat.le_trans (Nat.le_of_eq HBB.out.symm) hB.size
              have bA := (Below.refl w9yab.heap.size w9yab).alloc (Nat.le_refl _) (.cells #[.slice none 0 0, .slice none 0 0, .slice none 0 0] 49)
              have lt6 := (Array.getElem?_eq_some_iff.1 hN6).1
              replace hN6 := (bA.block _ lt6).trans hN6
              have lt9 := own_lt own9
              replace own9 := own_stay own9 bA
              replace hB := hB.trans (bA.mono (Nat.le_trans (Nat.le_of_eq HBB.out.symm) hB.size))
              have hS2 := hB
              clear hS bA
              refine hK.out _ _ hS2 (fun hS => ?_)
              clear hK K hS2
              obtain ⟨g1, hg1⟩ : ∃ g, w9yab.heap.size = g := ⟨_, rfl⟩
              replace hG1 : BB ≤ g1 := by omega
              have ne91 : g9 ≠ g1 := by omega
              rw [hg1] at hN1 ⊢
              obtain ⟨w1yabaa, hw1⟩ : ∃ V, World.alloc w9yab (.cells #[.slice none 0 0, .slice none 0 0, .slice none 0 0] 49) = V := ⟨_, rfl⟩
              rw [hw1] at hN1 hB hS hN6 own9 ⊢
              clear hw1 hg1 lt6 lt9
              refine wpAnyH_ready (rs := [7]) (by kernel_rfl) (by simp) ?_
              refine (AllReadyH.cons (o := { dst := some 66, op := .call { callee := .builtin .append, args := #[.tmp 63, .tmp 65], argTypes := #[38, 38] }, type := 38, pos := "law.go:106", after := #[⟨4, .data⟩, ⟨6, .data⟩, ⟨4, .chain⟩], guard := none }) rfl (fun K hK => ?_) AllReadyH.nil)
              refine step_append_lies _ rfl _ _ 38 rfl BB 26 i0 (.agg #[.bool false, .string ⟨#[]⟩, .string ⟨#[]⟩]) 3 40 Tryz.underlying38 hi hz0 hz1 hz2 rfl (by decide) _ nQ (flr (Q.map qg)) rfl own9 ⟨g6, 0, none⟩ 1 1 [.bool gb, .string S1, .string S2] rfl rfl (World.news_of_block hN6) (by simp [Value.oneCell']) Nat.zero_lt_one (by unfold maxLen; omega) (by omega) (Nat.le_trans (Nat.le_of_eq HBB.out.symm) hB.size) _ rfl ?_
              intro g7 c7 w7yabab hown7 hgrow7 hat7 hlt7
              have b7 : Below BB wd w7yabab := hB.grown hgrow7 (Nat.le_trans (Nat.le_of_eq HBB.out.symm) hB.size) (fun r hr => (own9.lt r hr).1)
              have own7 := hown7
              have lt1 := (Array.getElem?_eq_some_iff.1 hN1).1
              have ne71 : g7 ≠ g1 := by
                rcases hat7 with h | h
                · injection (show some g9 = some g7 from h) with h; omega
                · omega
              replace hN1 := (hgrow7.block g1 lt1 (fun e => by injection (show some g1 = some g9 from e) with e; omega)).trans hN1
              clear lt1
              replace hB := b7
              have hS2 := hB
              clear hS b7 hown7 hgrow7 hat7 hlt7 own9 hN6
              refine hK.out _ _ hS2 (fun hS => ?_)
              clear hK K hS2
              refine wpAnyH_take (i := 8) (v := ?vyabab8) rfl (by kernel_rfl) (by kernel_rfl) (by kernel_rfl) (fun _ _ _ h => h) (Or.inl ⟨by rfl, ?yyabab8⟩) hS ?ryabab8
              case yyabab8 => (intro w hS; go_simp; try with_reducible rfl)
              go_simp
              refine wpAnyH_ready (rs := [10]) (by kernel_rfl) (by simp) ?_
              refine (AllReadyH.cons (o := { dst := none, op := .store 49 (.tmp 10) (.tmp 67), type := 0, pos := "law.go:106", after := #[⟨9, .data⟩, ⟨8, .data⟩, ⟨7, .chain⟩, ⟨0, .phase⟩, ⟨1, .phase⟩, ⟨2, .phase⟩, ⟨3, .phase⟩, ⟨4, .phase⟩, ⟨5, .phase⟩, ⟨6, .phase⟩, ⟨7, .phase⟩, ⟨8, .phase⟩, ⟨9, .phase⟩], guard := none }) rfl (fun K hK => ?_) AllReadyH.nil)
              rw [if_pos (by rfl)]
              refine wp_store_row 49 (.tmp 10) (.tmp 67) rfl g1 (#[.slice pa nQ ca, .slice (some ⟨bg, 0, none⟩) nQ cg, .slice (some ⟨g7, 0, none⟩) (nQ + 1) c7]) (by first | rfl | (simp [Act.eval])) (by first | rfl | (simp [Act.eval])) 49 #[.slice none 0 0, .slice none 0 0, .slice none 0 0] hN1 (by kernel_rfl) (by simp) (by simp [Value.oneCell']) ?_
              replace hB := Below.setRow' hB hG1 (#[.slice pa nQ ca, .slice (some ⟨bg, 0, none⟩) nQ cg, .slice (some ⟨g7, 0, none⟩) (nQ + 1) c7])
              have hS2 := hB
              have hrow2 := setRow_heap _ _ _ (#[.slice pa nQ ca, .slice (some ⟨bg, 0, none⟩) nQ cg, .slice (some ⟨g7, 0, none⟩) (nQ + 1) c7]) _ _ hN1
              replace own7 := own_rowne own7 g1 (#[.slice pa nQ ca, .slice (some ⟨bg, 0, none⟩) nQ cg, .slice (some ⟨g7, 0, none⟩) (nQ + 1) c7]) ne71
              clear hS
              refine hK.out _ _ hS2 (fun hS => ?_)
              clear hK K hS2
              refine wpAnyH_done (by kernel_rfl) ?_ _
              go_wp2_with fail
              go_meet
              exact ⟨g1, some ⟨g7, 0, none⟩, c7, rfl, Lib.hid ⟨LWB.out.trans (hB.mono (Nat.le_trans LWB.out.size (Nat.le_of_eq HBB.out))), hrow2, own_LV (by first | (rw [List.length_append, List.length_map, HQ.out.2.2, flr_app]; exact own7) | exact own7)⟩⟩
          · go_simp
            have hN1 := heap_alloc_new w6yaab (.cells #[.slice none 0 0, .slice none 0 0, .slice none 0 0] 49)
            have hG1 : BB ≤ w6yaab.heap.size := Nat.le_trans (Nat.le_of_eq HBB.out.symm) hB.size
            have bA := (Below.refl w6yaab.heap.size w6yaab).alloc (Nat.le_refl _) (.cells #[.slice none 0 0, .slice none 0 0, .slice none 0 0] 49)
            have lt8 := own_lt own8
            replace own8 := own_stay own8 bA
            have lt6 := (Array.getElem?_eq_some_iff.1 hN6).1
            replace hN6 := (bA.block _ lt6).trans hN6
            replace hB := hB.trans (bA.mono (Nat.le_trans (Nat.le_of_eq HBB.out.symm) hB.size))
            have hS2 := hB
            clear hS bA
            refine hK.out _ _ hS2 (fun hS => ?_)
            clear hK K hS2
            obtain ⟨g1, hg1⟩ : ∃ g, w6yaab.heap.size = g := ⟨_, rfl⟩
            replace hG1 : BB ≤ g1 := by omega
            have ne81 : g8 ≠ g1 := by omega
            rw [hg1] at hN1 ⊢
            obtain ⟨w1yabab, hw1⟩ : ∃ V, World.alloc w6yaab (.cells #[.slice none 0 0, .slice none 0 0, .slice none 0 0] 49) = V := ⟨_, rfl⟩
            rw [hw1] at hN1 hB hS own8 hN6 ⊢
            clear hw1 hg1 lt8 lt6
            refine wpAnyH_ready (rs := [4]) (by kernel_rfl) (by simp) ?_
            refine (AllReadyH.cons (o := { dst := some 63, op := .call { callee := .builtin .append, args := #[.tmp 61, .tmp 62], argTypes := #[38, 38] }, type := 38, pos := "law.go:106", after := #[⟨2, .data⟩, ⟨3, .data⟩], guard := none }) rfl (fun K hK => ?_) AllReadyH.nil)
            refine step_append_lies _ rfl _ _ 38 rfl BB 26 i0 (.agg #[.bool false, .string ⟨#[]⟩, .string ⟨#[]⟩]) 3 40 Tryz.underlying38 hi hz0 hz1 hz2 rfl (by decide) _ 0 [] rfl own8 ⟨bg, 0, none⟩ nQ cg (flr (Q.map qg)) rfl (by rw [flr_len, List.length_map, HQ.out.2.2]) (fun j u hj => by rw [Lib.add_plain, Nat.zero_add]; exact (hB.cell (p := ⟨bg, j, none⟩) (by rw [← HBB.out]; exact World.block_lt_of_cell? _ _ (HGC.out j u hj))).trans (HGC.out j u hj)) (flr_one _) (Nat.pos_of_ne_zero hnz) (by unfold maxLen; omega) (by omega) (Nat.le_trans (Nat.le_of_eq HBB.out.symm) hB.size) _ rfl ?_
            intro g9 c9 w9yabb hown9 hgrow9 hat9 hlt9
            have b9 : Below BB wd w9yabb := hB.grown hgrow9 (Nat.le_trans (Nat.le_of_eq HBB.out.symm) hB.size) (fun r hr => (own8.lt r hr).1)
            simp only [Nat.zero_add, List.nil_append] at hown9 ⊢
            have own9 := hown9
            have lt6 := (Array.getElem?_eq_some_iff.1 hN6).1
            have ne96 : g9 ≠ g6 := by
              rcases hat9 with h | h
              · injection (show some g8 = some g9 from h) with h; omega
              · omega
            replace hN6 := (hgrow9.block g6 lt6 (fun e => by injection (show some g6 = some g8 from e) with e; omega)).trans hN6
            clear lt6
            have lt1 := (Array.getElem?_eq_some_iff.1 hN1).1
            have ne91 : g9 ≠ g1 := by
              rcases hat9 with h | h
              · injection (show some g8 = some g9 from h) with h; omega
              · omega
            replace hN1 := (hgrow9.block g1 lt1 (fun e => by injection (show some g1 = some g8 from e) with e; omega)).trans hN1
            clear lt1
            replace hB := b9
            have hS2 := hB
            clear hS b9 hown9 hgrow9 hat9 hlt9 own8
            refine hK.out _ _ hS2 (fun hS => ?_)
            clear hK K hS2
            refine wpAnyH_ready (rs := [7]) (by kernel_rfl) (by simp) ?_
            refine (AllReadyH.cons (o := { dst := some 66, op := .call { callee := .builtin .append, args := #[.tmp 63, .tmp 65], argTypes := #[38, 38] }, type := 38, pos := "law.go:106", after := #[⟨4, .data⟩, ⟨6, .data⟩, ⟨4, .chain⟩], guard := none }) rfl (fun K hK => ?_) AllReadyH.nil)
            refine step_append_lies _ rfl _ _ 38 rfl BB 26 i0 (.agg #[.bool false, .string ⟨#[]⟩, .string ⟨#[]⟩]) 3 40 Tryz.underlying38 hi hz0 hz1 hz2 rfl (by decide) _ nQ (flr (Q.map qg)) rfl own9 ⟨g6, 0, none⟩ 1 1 [.bool gb, .string S1, .string S2] rfl rfl (World.news_of_block hN6) (by simp [Value.oneCell']) Nat.zero_lt_one (by unfold maxLen; omega) (by omega) (Nat.le_trans (Nat.le_of_eq HBB.out.symm) hB.size) _ rfl ?_
            intro g7 c7 w7yabb hown7 hgrow7 hat7 hlt7
            have b7 : Below BB wd w7yabb := hB.grown hgrow7 (Nat.le_trans (Nat.le_of_eq HBB.out.symm) hB.size) (fun r hr => (own9.lt r hr).1)
            have own7 := hown7
            have lt1 := (Array.getElem?_eq_some_iff.1 hN1).1
            have ne71 : g7 ≠ g1 := by
              rcases hat7 with h | h
              · injection (show some g9 = some g7 from h) with h; omega
              · omega
            replace hN1 := (hgrow7.block g1 lt1 (fun e => by injection (show some g1 = some g9 from e) with e; omega)).trans hN1
            clear lt1
            replace hB := b7
            have hS2 := hB
            clear hS b7 hown7 hgrow7 hat7 hlt7 own9 hN6
            refine hK.out _ _ hS2 (fun hS => ?_)
            clear hK K hS2
            refine wpAnyH_take (i := 8) (v := ?vyabb8) rfl (by kernel_rfl) (by kernel_rfl) (by kernel_rfl) (fun _ _ _ h => h) (Or.inl ⟨by rfl, ?yyabb8⟩) hS ?ryabb8
            case yyabb8 => (intro w hS; go_simp; try with_reducible rfl)
            go_simp
            refine wpAnyH_ready (rs := [10]) (by kernel_rfl) (by simp) ?_
            refine (AllReadyH.cons (o := { dst := none, op := .store 49 (.tmp 10) (.tmp 67), type := 0, pos := "law.go:106", after := #[⟨9, .data⟩, ⟨8, .data⟩, ⟨7, .chain⟩, ⟨0, .phase⟩, ⟨1, .phase⟩, ⟨2, .phase⟩, ⟨3, .phase⟩, ⟨4, .phase⟩, ⟨5, .phase⟩, ⟨6, .phase⟩, ⟨7, .phase⟩, ⟨8, .phase⟩, ⟨9, .phase⟩], guard := none }) rfl (fun K hK => ?_) AllReadyH.nil)
            rw [if_pos (by rfl)]
            refine wp_store_row 49 (.tmp 10) (.tmp 67) rfl g1 (#[.slice pa nQ ca, .slice (some ⟨bg, 0, none⟩) nQ cg, .slice (some ⟨g7, 0, none⟩) (nQ + 1) c7]) (by first | rfl | (simp [Act.eval])) (by first | rfl | (simp [Act.eval])) 49 #[.slice none 0 0, .slice none 0 0, .slice none 0 0] hN1 (by kernel_rfl) (by simp) (by simp [Value.oneCell']) ?_
            replace hB := Below.setRow' hB hG1 (#[.slice pa nQ ca, .slice (some ⟨bg, 0, none⟩) nQ cg, .slice (some ⟨g7, 0, none⟩) (nQ + 1) c7])
            have hS2 := hB
            have hrow2 := setRow_heap _ _ _ (#[.slice pa nQ ca, .slice (some ⟨bg, 0, none⟩) nQ cg, .slice (some ⟨g7, 0, none⟩) (nQ + 1) c7]) _ _ hN1
            replace own7 := own_rowne own7 g1 (#[.slice pa nQ ca, .slice (some ⟨bg, 0, none⟩) nQ cg, .slice (some ⟨g7, 0, none⟩) (nQ + 1) c7]) ne71
            clear hS
            refine hK.out _ _ hS2 (fun hS => ?_)
            clear hK K hS2
            refine wpAnyH_done (by kernel_rfl) ?_ _
            go_wp2_with fail
            go_meet
            exact ⟨g1, some ⟨g7, 0, none⟩, c7, rfl, Lib.hid ⟨LWB.out.trans (hB.mono (Nat.le_trans LWB.out.size (Nat.le_of_eq HBB.out))), hrow2, own_LV (by first | (rw [List.length_append, List.length_map, HQ.out.2.2, flr_app]; exact own7) | exact own7)⟩⟩
        · go_simp
          have hN1 := heap_alloc_new w8y (.cells #[.slice none 0 0, .slice none 0 0, .slice none 0 0] 49)
          have hG1 : BB ≤ w8y.heap.size := Nat.le_trans (Nat.le_of_eq HBB.out.symm) hB.size
          have bA := (Below.refl w8y.heap.size w8y).alloc (Nat.le_refl _) (.cells #[.slice none 0 0, .slice none 0 0, .slice none 0 0] 49)
          have lt8 := own_lt own8
          replace own8 := own_stay own8 bA
          replace hB := hB.trans (bA.mono (Nat.le_trans (Nat.le_of_eq HBB.out.symm) hB.size))
          have hS2 := hB
          clear hS bA
          refine hK.out _ _ hS2 (fun hS => ?_)
          clear hK K hS2
          obtain ⟨g1, hg1⟩ : ∃ g, w8y.heap.size = g := ⟨_, rfl⟩
          replace hG1 : BB ≤ g1 := by omega
          have ne81 : g8 ≠ g1 := by omega
          rw [hg1] at hN1 ⊢
          obtain ⟨w1yabb, hw1⟩ : ∃ V, World.alloc w8y (.cells #[.slice none 0 0, .slice none 0 0, .slice none 0 0] 49) = V := ⟨_, rfl⟩
          rw [hw1] at hN1 hB hS own8 ⊢
          clear hw1 hg1 lt8
          refine wpAnyH_ready (rs := [4, 6]) (by kernel_rfl) (by simp) ?_
          refine (AllReadyH.cons (o := { dst := some 63, op := .call { callee := .builtin .append, args := #[.tmp 61, .tmp 62], argTypes := #[38, 38] }, type := 38, pos := "law.go:106", after := #[⟨2, .data⟩, ⟨3, .data⟩], guard := none }) rfl (fun K hK => ?_) (AllReadyH.cons (o := { dst := some 65, op := .buildSlice 38 1 #[(0, .tmp 64)], type := 38, pos := "law.go:106", after := #[⟨5, .data⟩], guard := none }) rfl (fun K hK => ?_) AllReadyH.nil))
          · refine step_append_lies _ rfl _ _ 38 rfl BB 26 i0 (.agg #[.bool false, .string ⟨#[]⟩, .string ⟨#[]⟩]) 3 40 Tryz.underlying38 hi hz0 hz1 hz2 rfl (by decide) _ 0 [] rfl own8 ⟨bg, 0, none⟩ nQ cg (flr (Q.map qg)) rfl (by rw [flr_len, List.length_map, HQ.out.2.2]) (fun j u hj => by rw [Lib.add_plain, Nat.zero_add]; exact (hB.cell (p := ⟨bg, j, none⟩) (by rw [← HBB.out]; exact World.block_lt_of_cell? _ _ (HGC.out j u hj))).trans (HGC.out j u hj)) (flr_one _) (Nat.pos_of_ne_zero hnz) (by unfold maxLen; omega) (by omega) (Nat.le_trans (Nat.le_of_eq HBB.out.symm) hB.size) _ rfl ?_
            intro g9 c9 w9yac hown9 hgrow9 hat9 hlt9
            have b9 : Below BB wd w9yac := hB.grown hgrow9 (Nat.le_trans (Nat.le_of_eq HBB.out.symm) hB.size) (fun r hr => (own8.lt r hr).1)
            simp only [Nat.zero_add, List.nil_append] at hown9 ⊢
            have own9 := hown9
            have lt1 := (Array.getElem?_eq_some_iff.1 hN1).1
            have ne91 : g9 ≠ g1 := by
              rcases hat9 with h | h
              · injection (show some g8 = some g9 from h) with h; omega
              · omega
            replace hN1 := (hgrow9.block g1 lt1 (fun e => by injection (show some g1 = some g8 from e) with e; omega)).trans hN1
            clear lt1
            replace hB := b9
            have hS2 := hB
            clear hS b9 hown9 hgrow9 hat9 hlt9 own8
            refine hK.out _ _ hS2 (fun hS => ?_)
            clear hK K hS2
            refine wpAnyH_ready (rs := [6]) (by kernel_rfl) (by simp) ?_
            refine (AllReadyH.cons (o := { dst := some 65, op := .buildSlice 38 1 #[(0, .tmp 64)], type := 38, pos := "law.go:106", after := #[⟨5, .data⟩], guard := none }) rfl (fun K hK => ?_) AllReadyH.nil)
            go_simp
            have hN6 := heap_alloc_new w9yac (.cells #[.bool gb, .string S1, .string S2] 26)
            have hG6 : BB ≤ w9yac.heap.size := Nat.le_trans (Nat.le_of_eq HBB.out.symm) hB.size
            have bA := (Below.refl w9yac.heap.size w9yac).alloc (Nat.le_refl _) (.cells #[.bool gb, .string S1, .string S2] 26)
            have lt1 := (Array.getElem?_eq_some_iff.1 hN1).1
            replace hN1 := (bA.block _ lt1).trans hN1
            have lt9 := own_lt own9
            replace own9 := own_stay own9 bA
            replace hB := hB.trans (bA.mono (Nat.le_trans (Nat.le_of_eq HBB.out.symm) hB.size))
            have hS2 := hB
            clear hS bA
            refine hK.out _ _ hS2 (fun hS => ?_)
            clear hK K hS2
            obtain ⟨g6, hg6⟩ : ∃ g, w9yac.heap.size = g := ⟨_, rfl⟩
            replace hG6 : BB ≤ g6 := by omega
            have ne96 : g9 ≠ g6 := by omega
            rw [hg6] at hN6 ⊢
            obtain ⟨w6yaca, hw6⟩ : ∃ V, World.alloc w9yac (.cells #[.bool gb, .string S1, .string S2] 26) = V := ⟨_, rfl⟩
            rw [hw6] at hN6 hB hS hN1 own9 ⊢
            clear hw6 hg6 lt1 lt9
            refine wpAnyH_ready (rs := [7]) (by kernel_rfl) (by simp) ?_
            refine (AllReadyH.cons (o := { dst := some 66, op := .call { callee := .builtin .append, args := #[.tmp 63, .tmp 65], argTypes := #[38, 38] }, type := 38, pos := "law.go:106", after := #[⟨4, .data⟩, ⟨6, .data⟩, ⟨4, .chain⟩], guard := none }) rfl (fun K hK => ?_) AllReadyH.nil)
            refine step_append_lies _ rfl _ _ 38 rfl BB 26 i0 (.agg #[.bool false, .string ⟨#[]⟩, .string ⟨#[]⟩]) 3 40 Tryz.underlying38 hi hz0 hz1 hz2 rfl (by decide) _ nQ (flr (Q.map qg)) rfl own9 ⟨g6, 0, none⟩ 1 1 [.bool gb, .string S1, .string S2] rfl rfl (World.news_of_block hN6) (by simp [Value.oneCell']) Nat.zero_lt_one (by unfold maxLen; omega) (by omega) (Nat.le_trans (Nat.le_of_eq HBB.out.symm) hB.size) _ rfl ?_
            intro g7 c7 w7yaca hown7 hgrow7 hat7 hlt7
            have b7 : Below BB wd w7yaca := hB.grown hgrow7 (Nat.le_trans (Nat.le_of_eq HBB.out.symm) hB.size) (fun r hr => (own9.lt r hr).1)
            have own7 := hown7
            have lt1 := (Array.getElem?_eq_some_iff.1 hN1).1
            have ne71 : g7 ≠ g1 := by
              rcases hat7 with h | h
              · injection (show some g9 = some g7 from h) with h; omega
              · omega
            replace hN1 := (hgrow7.block g1 lt1 (fun e => by injection (show some g1 = some g9 from e) with e; omega)).trans hN1
            clear lt1
            replace hB := b7
            have hS2 := hB
            clear hS b7 hown7 hgrow7 hat7 hlt7 own9 hN6
            refine hK.out _ _ hS2 (fun hS => ?_)
            clear hK K hS2
            refine wpAnyH_take (i := 8) (v := ?vyaca8) rfl (by kernel_rfl) (by kernel_rfl) (by kernel_rfl) (fun _ _ _ h => h) (Or.inl ⟨by rfl, ?yyaca8⟩) hS ?ryaca8
            case yyaca8 => (intro w hS; go_simp; try with_reducible rfl)
            go_simp
            refine wpAnyH_ready (rs := [10]) (by kernel_rfl) (by simp) ?_
            refine (AllReadyH.cons (o := { dst := none, op := .store 49 (.tmp 10) (.tmp 67), type := 0, pos := "law.go:106", after := #[⟨9, .data⟩, ⟨8, .data⟩, ⟨7, .chain⟩, ⟨0, .phase⟩, ⟨1, .phase⟩, ⟨2, .phase⟩, ⟨3, .phase⟩, ⟨4, .phase⟩, ⟨5, .phase⟩, ⟨6, .phase⟩, ⟨7, .phase⟩, ⟨8, .phase⟩, ⟨9, .phase⟩], guard := none }) rfl (fun K hK => ?_) AllReadyH.nil)
            rw [if_pos (by rfl)]
            refine wp_store_row 49 (.tmp 10) (.tmp 67) rfl g1 (#[.slice pa nQ ca, .slice (some ⟨bg, 0, none⟩) nQ cg, .slice (some ⟨g7, 0, none⟩) (nQ + 1) c7]) (by first | rfl | (simp [Act.eval])) (by first | rfl | (simp [Act.eval])) 49 #[.slice none 0 0, .slice none 0 0, .slice none 0 0] hN1 (by kernel_rfl) (by simp) (by simp [Value.oneCell']) ?_
            replace hB := Below.setRow' hB hG1 (#[.slice pa nQ ca, .slice (some ⟨bg, 0, none⟩) nQ cg, .slice (some ⟨g7, 0, none⟩) (nQ + 1) c7])
            have hS2 := hB
            have hrow2 := setRow_heap _ _ _ (#[.slice pa nQ ca, .slice (some ⟨bg, 0, none⟩) nQ cg, .slice (some ⟨g7, 0, none⟩) (nQ + 1) c7]) _ _ hN1
            replace own7 := own_rowne own7 g1 (#[.slice pa nQ ca, .slice (some ⟨bg, 0, none⟩) nQ cg, .slice (some ⟨g7, 0, none⟩) (nQ + 1) c7]) ne71
            clear hS
            refine hK.out _ _ hS2 (fun hS => ?_)
            clear hK K hS2
            refine wpAnyH_done (by kernel_rfl) ?_ _
            go_wp2_with fail
            go_meet
            exact ⟨g1, some ⟨g7, 0, none⟩, c7, rfl, Lib.hid ⟨LWB.out.trans (hB.mono (Nat.le_trans LWB.out.size (Nat.le_of_eq HBB.out))), hrow2, own_LV (by first | (rw [List.length_append, List.length_map, HQ.out.2.2, flr_app]; exact own7) | exact own7)⟩⟩
          · go_simp
            have hN6 := heap_alloc_new w1yabb (.cells #[.bool gb, .string S1, .string S2] 26)
            have hG6 : BB ≤ w1yabb.heap.size := Nat.le_trans (Nat.le_of_eq HBB.out.symm) hB.size
            have bA := (Below.refl w1yabb.heap.size w1yabb).alloc (Nat.le_refl _) (.cells #[.bool gb, .string S1, .string S2] 26)
            have lt8 := own_lt own8
            replace own8 := own_stay own8 bA
            have lt1 := (Array.getElem?_eq_some_iff.1 hN1).1
            replace hN1 := (bA.block _ lt1).trans hN1
            replace hB := hB.trans (bA.mono (Nat.le_trans (Nat.le_of_eq HBB.out.symm) hB.size))
            have hS2 := hB
            clear hS bA
            refine hK.out _ _ hS2 (fun hS => ?_)
            clear hK K hS2
            obtain ⟨g6, hg6⟩ : ∃ g, w1yabb.heap.size = g := ⟨_, rfl⟩
            replace hG6 : BB ≤ g6 := by omega
            have ne86 : g8 ≠ g6 := by omega
            rw [hg6] at hN6 ⊢
            obtain ⟨w6yaca, hw6⟩ : ∃ V, World.alloc w1yabb (.cells #[.bool gb, .string S1, .string S2] 26) = V := ⟨_, rfl⟩
            rw [hw6] at hN6 hB hS own8 hN1 ⊢
            clear hw6 hg6 lt8 lt1
            refine wpAnyH_ready (rs := [4]) (by kernel_rfl) (by simp) ?_
            refine (AllReadyH.cons (o := { dst := some 63, op := .call { callee := .builtin .append, args := #[.tmp 61, .tmp 62], argTypes := #[38, 38] }, type := 38, pos := "law.go:106", after := #[⟨2, .data⟩, ⟨3, .data⟩], guard := none }) rfl (fun K hK => ?_) AllReadyH.nil)
            refine step_append_lies _ rfl _ _ 38 rfl BB 26 i0 (.agg #[.bool false, .string ⟨#[]⟩, .string ⟨#[]⟩]) 3 40 Tryz.underlying38 hi hz0 hz1 hz2 rfl (by decide) _ 0 [] rfl own8 ⟨bg, 0, none⟩ nQ cg (flr (Q.map qg)) rfl (by rw [flr_len, List.length_map, HQ.out.2.2]) (fun j u hj => by rw [Lib.add_plain, Nat.zero_add]; exact (hB.cell (p := ⟨bg, j, none⟩) (by rw [← HBB.out]; exact World.block_lt_of_cell? _ _ (HGC.out j u hj))).trans (HGC.out j u hj)) (flr_one _) (Nat.pos_of_ne_zero hnz) (by unfold maxLen; omega) (by omega) (Nat.le_trans (Nat.le_of_eq HBB.out.symm) hB.size) _ rfl ?_
            intro g9 c9 w9yacb hown9 hgrow9 hat9 hlt9
            have b9 : Below BB wd w9yacb := hB.grown hgrow9 (Nat.le_trans (Nat.le_of_eq HBB.out.symm) hB.size) (fun r hr => (own8.lt r hr).1)
            simp only [Nat.zero_add, List.nil_append] at hown9 ⊢
            have own9 := hown9
            have lt1 := (Array.getElem?_eq_some_iff.1 hN1).1
            have ne91 : g9 ≠ g1 := by
              rcases hat9 with h | h
              · injection (show some g8 = some g9 from h) with h; omega
              · omega
            replace hN1 := (hgrow9.block g1 lt1 (fun e => by injection (show some g1 = some g8 from e) with e; omega)).trans hN1
            clear lt1
            have lt6 := (Array.getElem?_eq_some_iff.1 hN6).1
            have ne96 : g9 ≠ g6 := by
              rcases hat9 with h | h
              · injection (show some g8 = some g9 from h) with h; omega
              · omega
            replace hN6 := (hgrow9.block g6 lt6 (fun e => by injection (show some g6 = some g8 from e) with e; omega)).trans hN6
            clear lt6
            replace hB := b9
            have hS2 := hB
            clear hS b9 hown9 hgrow9 hat9 hlt9 own8
            refine hK.out _ _ hS2 (fun hS => ?_)
            clear hK K hS2
            refine wpAnyH_ready (rs := [7]) (by kernel_rfl) (by simp) ?_
            refine (AllReadyH.cons (o := { dst := some 66, op := .call { callee := .builtin .append, args := #[.tmp 63, .tmp 65], argTypes := #[38, 38] }, type := 38, pos := "law.go:106", after := #[⟨4, .data⟩, ⟨6, .data⟩, ⟨4, .chain⟩], guard := none }) rfl (fun K hK => ?_) AllReadyH.nil)
            refine step_append_lies _ rfl _ _ 38 rfl BB 26 i0 (.agg #[.bool false, .string ⟨#[]⟩, .string ⟨#[]⟩]) 3 40 Tryz.underlying38 hi hz0 hz1 hz2 rfl (by decide) _ nQ (flr (Q.map qg)) rfl own9 ⟨g6, 0, none⟩ 1 1 [.bool gb, .string S1, .string S2] rfl rfl (World.news_of_block hN6) (by simp [Value.oneCell']) Nat.zero_lt_one (by unfold maxLen; omega) (by omega) (Nat.le_trans (Nat.le_of_eq HBB.out.symm) hB.size) _ rfl ?_
            intro g7 c7 w7yacb hown7 hgrow7 hat7 hlt7
            have b7 : Below BB wd w7yacb := hB.grown hgrow7 (Nat.le_trans (Nat.le_of_eq HBB.out.symm) hB.size) (fun r hr => (own9.lt r hr).1)
            have own7 := hown7
            have lt1 := (Array.getElem?_eq_some_iff.1 hN1).1
            have ne71 : g7 ≠ g1 := by
              rcases hat7 with h | h
              · injection (show some g9 = some g7 from h) with h; omega
              · omega
            replace hN1 := (hgrow7.block g1 lt1 (fun e => by injection (show some g1 = some g9 from e) with e; omega)).trans hN1
            clear lt1
            replace hB := b7
            have hS2 := hB
            clear hS b7 hown7 hgrow7 hat7 hlt7 own9 hN6
            refine hK.out _ _ hS2 (fun hS => ?_)
            clear hK K hS2
            refine wpAnyH_take (i := 8) (v := ?vyacb8) rfl (by kernel_rfl) (by kernel_rfl) (by kernel_rfl) (fun _ _ _ h => h) (Or.inl ⟨by rfl, ?yyacb8⟩) hS ?ryacb8
            case yyacb8 => (intro w hS; go_simp; try with_reducible rfl)
            go_simp
            refine wpAnyH_ready (rs := [10]) (by kernel_rfl) (by simp) ?_
            refine (AllReadyH.cons (o := { dst := none, op := .store 49 (.tmp 10) (.tmp 67), type := 0, pos := "law.go:106", after := #[⟨9, .data⟩, ⟨8, .data⟩, ⟨7, .chain⟩, ⟨0, .phase⟩, ⟨1, .phase⟩, ⟨2, .phase⟩, ⟨3, .phase⟩, ⟨4, .phase⟩, ⟨5, .phase⟩, ⟨6, .phase⟩, ⟨7, .phase⟩, ⟨8, .phase⟩, ⟨9, .phase⟩], guard := none }) rfl (fun K hK => ?_) AllReadyH.nil)
            rw [if_pos (by rfl)]
            refine wp_store_row 49 (.tmp 10) (.tmp 67) rfl g1 (#[.slice pa nQ ca, .slice (some ⟨bg, 0, none⟩) nQ cg, .slice (some ⟨g7, 0, none⟩) (nQ + 1) c7]) (by first | rfl | (simp [Act.eval])) (by first | rfl | (simp [Act.eval])) 49 #[.slice none 0 0, .slice none 0 0, .slice none 0 0] hN1 (by kernel_rfl) (by simp) (by simp [Value.oneCell']) ?_
            replace hB := Below.setRow' hB hG1 (#[.slice pa nQ ca, .slice (some ⟨bg, 0, none⟩) nQ cg, .slice (some ⟨g7, 0, none⟩) (nQ + 1) c7])
            have hS2 := hB
            have hrow2 := setRow_heap _ _ _ (#[.slice pa nQ ca, .slice (some ⟨bg, 0, none⟩) nQ cg, .slice (some ⟨g7, 0, none⟩) (nQ + 1) c7]) _ _ hN1
            replace own7 := own_rowne own7 g1 (#[.slice pa nQ ca, .slice (some ⟨bg, 0, none⟩) nQ cg, .slice (some ⟨g7, 0, none⟩) (nQ + 1) c7]) ne71
            clear hS
            refine hK.out _ _ hS2 (fun hS => ?_)
            clear hK K hS2
            refine wpAnyH_done (by kernel_rfl) ?_ _
            go_wp2_with fail
            go_meet
            exact ⟨g1, some ⟨g7, 0, none⟩, c7, rfl, Lib.hid ⟨LWB.out.trans (hB.mono (Nat.le_trans LWB.out.size (Nat.le_of_eq HBB.out))), hrow2, own_LV (by first | (rw [List.length_append, List.length_map, HQ.out.2.2, flr_app]; exact own7) | exact own7)⟩⟩
      · go_simp
        have hN6 := heap_alloc_new wd (.cells #[.bool gb, .string S1, .string S2] 26)
        have hG6 : BB ≤ wd.heap.size := Nat.le_trans (Nat.le_of_eq HBB.out.symm) hB.size
        have bA := (Below.refl wd.heap.size wd).alloc (Nat.le_refl _) (.cells #[.bool gb, .string S1, .string S2] 26)
        replace hB := hB.trans (bA.mono (Nat.le_trans (Nat.le_of_eq HBB.out.symm) hB.size))
        have hS2 := hB
        clear hS bA
        refine hK.out _ _ hS2 (fun hS => ?_)
        clear hK K hS2
        obtain ⟨g6, hg6⟩ : ∃ g, wd.heap.size = g := ⟨_, rfl⟩
        replace hG6 : BB ≤ g6 := by omega
        rw [hg6] at hN6 ⊢
        obtain ⟨w6yacb, hw6⟩ : ∃ V, World.alloc wd (.cells #[.bool gb, .string S1, .string S2] 26) = V := ⟨_, rfl⟩
        rw [hw6] at hN6 hB hS  ⊢
        clear hw6 hg6 
        refine wpAnyH_ready (rs := [2, 9]) (by kernel_rfl) (by simp) ?_
        refine (AllReadyH.cons (o := { dst := some 61, op := .buildSlice 38 0 #[], type := 38, pos := "law.go:106", after := #[], guard := none }) rfl (fun K hK => ?_) (AllReadyH.cons (o := { dst := some 10, op := .alloc 49, type := 0, pos := "law.go:106", after := #[], guard := none }) rfl (fun K hK => ?_) AllReadyH.nil))
        · go_simp
          have own8 := own_emptyR w6yacb BB (Nat.le_trans (Nat.le_of_eq HBB.out.symm) hB.size)
          have hG8 : BB ≤ w6yacb.heap.size := Nat.le_trans (Nat.le_of_eq HBB.out.symm) hB.size
          have bA := (Below.refl w6yacb.heap.size w6yacb).alloc (Nat.le_refl _) (.cells #[] 26)
          have lt6 := (Array.getElem?_eq_some_iff.1 hN6).1
          replace hN6 := (bA.block _ lt6).trans hN6
          replace hB := hB.trans (bA.mono (Nat.le_trans (Nat.le_of_eq HBB.out.symm) hB.size))
          have hS2 := hB
          clear hS bA
          refine hK.out _ _ hS2 (fun hS => ?_)
          clear hK K hS2
          obtain ⟨g8, hg8⟩ : ∃ g, w6yacb.heap.size = g := ⟨_, rfl⟩
          replace hG8 : BB ≤ g8 := by omega
          have ne86 : g8 ≠ g6 := by omega
          rw [hg8] at own8 ⊢
          obtain ⟨w8yb, hw8⟩ : ∃ V, World.alloc w6yacb (.cells #[] 26) = V := ⟨_, rfl⟩
          rw [hw8] at own8 hB hS hN6 ⊢
          clear hw8 hg8 lt6
          refine wpAnyH_ready (rs := [4, 9]) (by kernel_rfl) (by simp) ?_
          refine (AllReadyH.cons (o := { dst := some 63, op := .call { callee := .builtin .append, args := #[.tmp 61, .tmp 62], argTypes := #[38, 38] }, type := 38, pos := "law.go:106", after := #[⟨2, .data⟩, ⟨3, .data⟩], guard := none }) rfl (fun K hK => ?_) (AllReadyH.cons (o := { dst := some 10, op := .alloc 49, type := 0, pos := "law.go:106", after := #[], guard := none }) rfl (fun K hK => ?_) AllReadyH.nil))
          · refine step_append_lies _ rfl _ _ 38 rfl BB 26 i0 (.agg #[.bool false, .string ⟨#[]⟩, .string ⟨#[]⟩]) 3 40 Tryz.underlying38 hi hz0 hz1 hz2 rfl (by decide) _ 0 [] rfl own8 ⟨bg, 0, none⟩ nQ cg (flr (Q.map qg)) rfl (by rw [flr_len, List.length_map, HQ.out.2.2]) (fun j u hj => by rw [Lib.add_plain, Nat.zero_add]; exact (hB.cell (p := ⟨bg, j, none⟩) (by rw [← HBB.out]; exact World.block_lt_of_cell? _ _ (HGC.out j u hj))).trans (HGC.out j u hj)) (flr_one _) (Nat.pos_of_ne_zero hnz) (by unfold maxLen; omega) (by omega) (Nat.le_trans (Nat.le_of_eq HBB.out.symm) hB.size) _ rfl ?_
            intro g9 c9 w9yba hown9 hgrow9 hat9 hlt9
            have b9 : Below BB wd w9yba := hB.grown hgrow9 (Nat.le_trans (Nat.le_of_eq HBB.out.symm) hB.size) (fun r hr => (own8.lt r hr).1)
            simp only [Nat.zero_add, List.nil_append] at hown9 ⊢
            have own9 := hown9
            have lt6 := (Array.getElem?_eq_some_iff.1 hN6).1
            have ne96 : g9 ≠ g6 := by
              rcases hat9 with h | h
              · injection (show some g8 = some g9 from h) with h; omega
              · omega
            replace hN6 := (hgrow9.block g6 lt6 (fun e => by injection (show some g6 = some g8 from e) with e; omega)).trans hN6
            clear lt6
            replace hB := b9
            have hS2 := hB
            clear hS b9 hown9 hgrow9 hat9 hlt9 own8
            refine hK.out _ _ hS2 (fun hS => ?_)
            clear hK K hS2
            refine wpAnyH_ready (rs := [7, 9]) (by kernel_rfl) (by simp) ?_
            refine (AllReadyH.cons (o := { dst := some 66, op := .call { callee := .builtin .append, args := #[.tmp 63, .tmp 65], argTypes := #[38, 38] }, type := 38, pos := "law.go:106", after := #[⟨4, .data⟩, ⟨6, .data⟩, ⟨4, .chain⟩], guard := none }) rfl (fun K hK => ?_) (AllReadyH.cons (o := { dst := some 10, op := .alloc 49, type := 0, pos := "law.go:106", after := #[], guard := none }) rfl (fun K hK => ?_) AllReadyH.nil))
            · refine step_append_lies _ rfl _ _ 38 rfl BB 26 i0 (.agg #[.bool false, .string ⟨#[]⟩, .string ⟨#[]⟩]) 3 40 Tryz.underlying38 hi hz0 hz1 hz2 rfl (by decide) _ nQ (flr (Q.map qg)) rfl own9 ⟨g6, 0, none⟩ 1 1 [.bool gb, .string S1, .string S2] rfl rfl (World.news_of_block hN6) (by simp [Value.oneCell']) Nat.zero_lt_one (by unfold maxLen; omega) (by omega) (Nat.le_trans (Nat.le_of_eq HBB.out.symm) hB.size) _ rfl ?_
              intro g7 c7 w7ybaa hown7 hgrow7 hat7 hlt7
              have b7 : Below BB wd w7ybaa := hB.grown hgrow7 (Nat.le_trans (Nat.le_of_eq HBB.out.symm) hB.size) (fun r hr => (own9.lt r hr).1)
              have own7 := hown7
              replace hB := b7
              have hS2 := hB
              clear hS b7 hown7 hgrow7 hat7 hlt7 own9 hN6
              refine hK.out _ _ hS2 (fun hS => ?_)
              clear hK K hS2
              refine wpAnyH_take (i := 8) (v := ?vybaaa8) rfl (by kernel_rfl) (by kernel_rfl) (by kernel_rfl) (fun _ _ _ h => h) (Or.inl ⟨by rfl, ?yybaaa8⟩) hS ?rybaaa8
              case yybaaa8 => (intro w hS; go_simp; try with_reducible rfl)
              go_simp
              refine wpAnyH_ready (rs := [9]) (by kernel_rfl) (by simp) ?_
              refine (AllReadyH.cons (o := { dst := some 10, op := .alloc 49, type := 0, pos := "law.go:106", after := #[], guard := none }) rfl (fun K hK => ?_) AllReadyH.nil)
              go_simp
              have hN1 := heap_alloc_new w7ybaa (.cells #[.slice none 0 0, .slice none 0 0, .slice none 0 0] 49)
              have hG1 : BB ≤ w7ybaa.heap.size := Nat.le_trans (Nat.le_of_eq HBB.out.symm) hB.size
              have bA := (Below.refl w7ybaa.heap.size w7ybaa).alloc (Nat.le_refl _) (.cells #[.slice none 0 0, .slice none 0 0, .slice none 0 0] 49)
              have lt7 := own_lt own7
              replace own7 := own_stay own7 bA
              replace hB := hB.trans (bA.mono (Nat.le_trans (Nat.le_of_eq HBB.out.symm) hB.size))
              have hS2 := hB
              clear hS bA
              refine hK.out _ _ hS2 (fun hS => ?_)
              clear hK K hS2
              obtain ⟨g1, hg1⟩ : ∃ g, w7ybaa.heap.size = g := ⟨_, rfl⟩
              replace hG1 : BB ≤ g1 := by omega
              have ne71 : g7 ≠ g1 := by omega
              rw [hg1] at hN1 ⊢
              obtain ⟨w1ybaaa, hw1⟩ : ∃ V, World.alloc w7ybaa (.cells #[.slice none 0 0, .slice none 0 0, .slice none 0 0] 49) = V := ⟨_, rfl⟩
              rw [hw1] at hN1 hB hS own7 ⊢
              clear hw1 hg1 lt7
              refine wpAnyH_ready (rs := [10]) (by kernel_rfl) (by simp) ?_
              refine (AllReadyH.cons (o := { dst := none, op := .store 49 (.tmp 10) (.tmp 67), type := 0, pos := "law.go:106", after := #[⟨9, .data⟩, ⟨8, .data⟩, ⟨7, .chain⟩, ⟨0, .phase⟩, ⟨1, .phase⟩, ⟨2, .phase⟩, ⟨3, .phase⟩, ⟨4, .phase⟩, ⟨5, .phase⟩, ⟨6, .phase⟩, ⟨7, .phase⟩, ⟨8, .phase⟩, ⟨9, .phase⟩], guard := none }) rfl (fun K hK => ?_) AllReadyH.nil)
              rw [if_pos (by rfl)]
              refine wp_store_row 49 (.tmp 10) (.tmp 67) rfl g1 (#[.slice pa nQ ca, .slice (some ⟨bg, 0, none⟩) nQ cg, .slice (some ⟨g7, 0, none⟩) (nQ + 1) c7]) (by first | rfl | (simp [Act.eval])) (by first | rfl | (simp [Act.eval])) 49 #[.slice none 0 0, .slice none 0 0, .slice none 0 0] hN1 (by kernel_rfl) (by simp) (by simp [Value.oneCell']) ?_
              replace hB := Below.setRow' hB hG1 (#[.slice pa nQ ca, .slice (some ⟨bg, 0, none⟩) nQ cg, .slice (some ⟨g7, 0, none⟩) (nQ + 1) c7])
              have hS2 := hB
              have hrow2 := setRow_heap _ _ _ (#[.slice pa nQ ca, .slice (some ⟨bg, 0, none⟩) nQ cg, .slice (some ⟨g7, 0, none⟩) (nQ + 1) c7]) _ _ hN1
              replace own7 := own_rowne own7 g1 (#[.slice pa nQ ca, .slice (some ⟨bg, 0, none⟩) nQ cg, .slice (some ⟨g7, 0, none⟩) (nQ + 1) c7]) ne71
              clear hS
              refine hK.out _ _ hS2 (fun hS => ?_)
              clear hK K hS2
              refine wpAnyH_done (by kernel_rfl) ?_ _
              go_wp2_with fail
              go_meet
              exact ⟨g1, some ⟨g7, 0, none⟩, c7, rfl, Lib.hid ⟨LWB.out.trans (hB.mono (Nat.le_trans LWB.out.size (Nat.le_of_eq HBB.out))), hrow2, own_LV (by first | (rw [List.length_append, List.length_map, HQ.out.2.2, flr_app]; exact own7) | exact own7)⟩⟩
            · go_simp
              have hN1 := heap_alloc_new w9yba (.cells #[.slice none 0 0, .slice none 0 0, .slice none 0 0] 49)
              have hG1 : BB ≤ w9yba.heap.size := Nat.le_trans (Nat.le_of_eq HBB.out.symm) hB.size
              have bA := (Below.refl w9yba.heap.size w9yba).alloc (Nat.le_refl _) (.cells #[.slice none 0 0, .slice none 0 0, .slice none 0 0] 49)
              have lt6 := (Array.getElem?_eq_some_iff.1 hN6).1
              replace hN6 := (bA.block _ lt6).trans hN6
              have lt9 := own_lt own9
              replace own9 := own_stay own9 bA
              replace hB := hB.trans (bA.mono (Nat.le_trans (Nat.le_of_eq HBB.out.symm) hB.size))
              have hS2 := hB
              clear hS bA
              refine hK.out _ _ hS2 (fun hS => ?_)
              clear hK K hS2
              obtain ⟨g1, hg1⟩ : ∃ g, w9yba.heap.size = g := ⟨_, rfl⟩
              replace hG1 : BB ≤ g1 := by omega
              have ne91 : g9 ≠ g1 := by omega
              rw [hg1] at hN1 ⊢
              obtain ⟨w1ybaaa, hw1⟩ : ∃ V, World.alloc w9yba (.cells #[.slice none 0 0, .slice none 0 0, .slice none 0 0] 49) = V := ⟨_, rfl⟩
              rw [hw1] at hN1 hB hS hN6 own9 ⊢
              clear hw1 hg1 lt6 lt9
              refine wpAnyH_ready (rs := [7]) (by kernel_rfl) (by simp) ?_
              refine (AllReadyH.cons (o := { dst := some 66, op := .call { callee := .builtin .append, args := #[.tmp 63, .tmp 65], argTypes := #[38, 38] }, type := 38, pos := "law.go:106", after := #[⟨4, .data⟩, ⟨6, .data⟩, ⟨4, .chain⟩], guard := none }) rfl (fun K hK => ?_) AllReadyH.nil)
              refine step_append_lies _ rfl _ _ 38 rfl BB 26 i0 (.agg #[.bool false, .string ⟨#[]⟩, .string ⟨#[]⟩]) 3 40 Tryz.underlying38 hi hz0 hz1 hz2 rfl (by decide) _ nQ (flr (Q.map qg)) rfl own9 ⟨g6, 0, none⟩ 1 1 [.bool gb, .string S1, .string S2] rfl rfl (World.news_of_block hN6) (by simp [Value.oneCell']) Nat.zero_lt_one (by unfold maxLen; omega) (by omega) (Nat.le_trans (Nat.le_of_eq HBB.out.symm) hB.size) _ rfl ?_
              intro g7 c7 w7ybaab hown7 hgrow7 hat7 hlt7
              have b7 : Below BB wd w7ybaab := hB.grown hgrow7 (Nat.le_trans (Nat.le_of_eq HBB.out.symm) hB.size) (fun r hr => (own9.lt r hr).1)
              have own7 := hown7
              have lt1 := (Array.getElem?_eq_some_iff.1 hN1).1
              have ne71 : g7 ≠ g1 := by
                rcases hat7 with h | h
                · injection (show some g9 = some g7 from h) with h; omega
                · omega
              replace hN1 := (hgrow7.block g1 lt1 (fun e => by injection (show some g1 = some g9 from e) with e; omega)).trans hN1
              clear lt1
              replace hB := b7
              have hS2 := hB
              clear hS b7 hown7 hgrow7 hat7 hlt7 own9 hN6
              refine hK.out _ _ hS2 (fun hS => ?_)
              clear hK K hS2
              refine wpAnyH_take (i := 8) (v := ?vybaab8) rfl (by kernel_rfl) (by kernel_rfl) (by kernel_rfl) (fun _ _ _ h => h) (Or.inl ⟨by rfl, ?yybaab8⟩) hS ?rybaab8
              case yybaab8 => (intro w hS; go_simp; try with_reducible rfl)
              go_simp
              refine wpAnyH_ready (rs := [10]) (by kernel_rfl) (by simp) ?_
              refine (AllReadyH.cons (o := { dst := none, op := .store 49 (.tmp 10) (.tmp 67), type := 0, pos := "law.go:106", after := #[⟨9, .data⟩, ⟨8, .data⟩, ⟨7, .chain⟩, ⟨0, .phase⟩, ⟨1, .phase⟩, ⟨2, .phase⟩, ⟨3, .phase⟩, ⟨4, .phase⟩, ⟨5, .phase⟩, ⟨6, .phase⟩, ⟨7, .phase⟩, ⟨8, .phase⟩, ⟨9, .phase⟩], guard := none }) rfl (fun K hK => ?_) AllReadyH.nil)
              rw [if_pos (by rfl)]
              refine wp_store_row 49 (.tmp 10) (.tmp 67) rfl g1 (#[.slice pa nQ ca, .slice (some ⟨bg, 0, none⟩) nQ cg, .slice (some ⟨g7, 0, none⟩) (nQ + 1) c7]) (by first | rfl | (simp [Act.eval])) (by first | rfl | (simp [Act.eval])) 49 #[.slice none 0 0, .slice none 0 0, .slice none 0 0] hN1 (by kernel_rfl) (by simp) (by simp [Value.oneCell']) ?_
              replace hB := Below.setRow' hB hG1 (#[.slice pa nQ ca, .slice (some ⟨bg, 0, none⟩) nQ cg, .slice (some ⟨g7, 0, none⟩) (nQ + 1) c7])
              have hS2 := hB
              have hrow2 := setRow_heap _ _ _ (#[.slice pa nQ ca, .slice (some ⟨bg, 0, none⟩) nQ cg, .slice (some ⟨g7, 0, none⟩) (nQ + 1) c7]) _ _ hN1
              replace own7 := own_rowne own7 g1 (#[.slice pa nQ ca, .slice (some ⟨bg, 0, none⟩) nQ cg, .slice (some ⟨g7, 0, none⟩) (nQ + 1) c7]) ne71
              clear hS
              refine hK.out _ _ hS2 (fun hS => ?_)
              clear hK K hS2
              refine wpAnyH_done (by kernel_rfl) ?_ _
              go_wp2_with fail
              go_meet
              exact ⟨g1, some ⟨g7, 0, none⟩, c7, rfl, Lib.hid ⟨LWB.out.trans (hB.mono (Nat.le_trans LWB.out.size (Nat.le_of_eq HBB.out))), hrow2, own_LV (by first | (rw [List.length_append, List.length_map, HQ.out.2.2, flr_app]; exact own7) | exact own7)⟩⟩
          · go_simp
            have hN1 := heap_alloc_new w8yb (.cells #[.slice none 0 0, .slice none 0 0, .slice none 0 0] 49)
            have hG1 : BB ≤ w8yb.heap.size := Nat.le_trans (Nat.le_of_eq HBB.out.symm) hB.size
            have bA := (Below.refl w8yb.heap.size w8yb).alloc (Nat.le_refl _) (.cells #[.slice none 0 0, .slice none 0 0, .slice none 0 0] 49)
            have lt6 := (Array.getElem?_eq_some_iff.1 hN6).1
            replace hN6 := (bA.block _ lt6).trans hN6
            have lt8 := own_lt own8
            replace own8 := own_stay own8 bA
            replace hB := hB.trans (bA.mono (Nat.le_trans (Nat.le_of_eq HBB.out.symm) hB.size))
            have hS2 := hB
            clear hS bA
            refine hK.out _ _ hS2 (fun hS => ?_)
            clear hK K hS2
            obtain ⟨g1, hg1⟩ : ∃ g, w8yb.heap.size = g := ⟨_, rfl⟩
            replace hG1 : BB ≤ g1 := by omega
            have ne81 : g8 ≠ g1 := by omega
            rw [hg1] at hN1 ⊢
            obtain ⟨w1ybaab, hw1⟩ : ∃ V, World.alloc w8yb (.cells #[.slice none 0 0, .slice none 0 0, .slice none 0 0] 49) = V := ⟨_, rfl⟩
            rw [hw1] at hN1 hB hS hN6 own8 ⊢
            clear hw1 hg1 lt6 lt8
            refine wpAnyH_ready (rs := [4]) (by kernel_rfl) (by simp) ?_
            refine (AllReadyH.cons (o := { dst := some 63, op := .call { callee := .builtin .append, args := #[.tmp 61, .tmp 62], argTypes := #[38, 38] }, type := 38, pos := "law.go:106", after := #[⟨2, .data⟩, ⟨3, .data⟩], guard := none }) rfl (fun K hK => ?_) AllReadyH.nil)
            refine step_append_lies _ rfl _ _ 38 rfl BB 26 i0 (.agg #[.bool false, .string ⟨#[]⟩, .string ⟨#[]⟩]) 3 40 Tryz.underlying38 hi hz0 hz1 hz2 rfl (by decide) _ 0 [] rfl own8 ⟨bg, 0, none⟩ nQ cg (flr (Q.map qg)) rfl (by rw [flr_len, List.length_map, HQ.out.2.2]) (fun j u hj => by rw [Lib.add_plain, Nat.zero_add]; exact (hB.cell (p := ⟨bg, j, none⟩) (by rw [← HBB.out]; exact World.block_lt_of_cell? _ _ (HGC.out j u hj))).trans (HGC.out j u hj)) (flr_one _) (Nat.pos_of_ne_zero hnz) (by unfold maxLen; omega) (by omega) (Nat.le_trans (Nat.le_of_eq HBB.out.symm) hB.size) _ rfl ?_
            intro g9 c9 w9ybab hown9 hgrow9 hat9 hlt9
            have b9 : Below BB wd w9ybab := hB.grown hgrow9 (Nat.le_trans (Nat.le_of_eq HBB.out.symm) hB.size) (fun r hr => (own8.lt r hr).1)
            simp only [Nat.zero_add, List.nil_append] at hown9 ⊢
            have own9 := hown9
            have lt6 := (Array.getElem?_eq_some_iff.1 hN6).1
            have ne96 : g9 ≠ g6 := by
              rcases hat9 with h | h
              · injection (show some g8 = some g9 from h) with h; omega
              · omega
            replace hN6 := (hgrow9.block g6 lt6 (fun e => by injection (show some g6 = some g8 from e) with e; omega)).trans hN6
            clear lt6
            have lt1 := (Array.getElem?_eq_some_iff.1 hN1).1
            have ne91 : g9 ≠ g1 := by
              rcases hat9 with h | h
              · injection (show some g8 = some g9 from h) with h; omega
              · omega
            replace hN1 := (hgrow9.block g1 lt1 (fun e => by injection (show some g1 = some g8 from e) with e; omega)).trans hN1
            clear lt1
            replace hB := b9
            have hS2 := hB
            clear hS b9 hown9 hgrow9 hat9 hlt9 own8
            refine hK.out _ _ hS2 (fun hS => ?_)
            clear hK K hS2
            refine wpAnyH_ready (rs := [7]) (by kernel_rfl) (by simp) ?_
            refine (AllReadyH.cons (o := { dst := some 66, op := .call { callee := .builtin .append, args := #[.tmp 63, .tmp 65], argTypes := #[38, 38] }, type := 38, pos := "law.go:106", after := #[⟨4, .data⟩, ⟨6, .data⟩, ⟨4, .chain⟩], guard := none }) rfl (fun K hK => ?_) AllReadyH.nil)
            refine step_append_lies _ rfl _ _ 38 rfl BB 26 i0 (.agg #[.bool false, .string ⟨#[]⟩, .string ⟨#[]⟩]) 3 40 Tryz.underlying38 hi hz0 hz1 hz2 rfl (by decide) _ nQ (flr (Q.map qg)) rfl own9 ⟨g6, 0, none⟩ 1 1 [.bool gb, .string S1, .string S2] rfl rfl (World.news_of_block hN6) (by simp [Value.oneCell']) Nat.zero_lt_one (by unfold maxLen; omega) (by omega) (Nat.le_trans (Nat.le_of_eq HBB.out.symm) hB.size) _ rfl ?_
            intro g7 c7 w7ybab hown7 hgrow7 hat7 hlt7
            have b7 : Below BB wd w7ybab := hB.grown hgrow7 (Nat.le_trans (Nat.le_of_eq HBB.out.symm) hB.size) (fun r hr => (own9.lt r hr).1)
            have own7 := hown7
            have lt1 := (Array.getElem?_eq_some_iff.1 hN1).1
            have ne71 : g7 ≠ g1 := by
              rcases hat7 with h | h
              · injection (show some g9 = some g7 from h) with h; omega
              · omega
            replace hN1 := (hgrow7.block g1 lt1 (fun e => by injection (show some g1 = some g9 from e) with e; omega)).trans hN1
            clear lt1
            replace hB := b7
            have hS2 := hB
            clear hS b7 hown7 hgrow7 hat7 hlt7 own9 hN6
            refine hK.out _ _ hS2 (fun hS => ?_)
            clear hK K hS2
            refine wpAnyH_take (i := 8) (v := ?vybab8) rfl (by kernel_rfl) (by kernel_rfl) (by kernel_rfl) (fun _ _ _ h => h) (Or.inl ⟨by rfl, ?yybab8⟩) hS ?rybab8
            case yybab8 => (intro w hS; go_simp; try with_reducible rfl)
            go_simp
            refine wpAnyH_ready (rs := [10]) (by kernel_rfl) (by simp) ?_
            refine (AllReadyH.cons (o := { dst := none, op := .store 49 (.tmp 10) (.tmp 67), type := 0, pos := "law.go:106", after := #[⟨9, .data⟩, ⟨8, .data⟩, ⟨7, .chain⟩, ⟨0, .phase⟩, ⟨1, .phase⟩, ⟨2, .phase⟩, ⟨3, .phase⟩, ⟨4, .phase⟩, ⟨5, .phase⟩, ⟨6, .phase⟩, ⟨7, .phase⟩, ⟨8, .phase⟩, ⟨9, .phase⟩], guard := none }) rfl (fun K hK => ?_) AllReadyH.nil)
            rw [if_pos (by rfl)]
            refine wp_store_row 49 (.tmp 10) (.tmp 67) rfl g1 (#[.slice pa nQ ca, .slice (some ⟨bg, 0, none⟩) nQ cg, .slice (some ⟨g7, 0, none⟩) (nQ + 1) c7]) (by first | rfl | (simp [Act.eval])) (by first | rfl | (simp [Act.eval])) 49 #[.slice none 0 0, .slice none 0 0, .slice none 0 0] hN1 (by kernel_rfl) (by simp) (by simp [Value.oneCell']) ?_
            replace hB := Below.setRow' hB hG1 (#[.slice pa nQ ca, .slice (some ⟨bg, 0, none⟩) nQ cg, .slice (some ⟨g7, 0, none⟩) (nQ + 1) c7])
            have hS2 := hB
            have hrow2 := setRow_heap _ _ _ (#[.slice pa nQ ca, .slice (some ⟨bg, 0, none⟩) nQ cg, .slice (some ⟨g7, 0, none⟩) (nQ + 1) c7]) _ _ hN1
            replace own7 := own_rowne own7 g1 (#[.slice pa nQ ca, .slice (some ⟨bg, 0, none⟩) nQ cg, .slice (some ⟨g7, 0, none⟩) (nQ + 1) c7]) ne71
            clear hS
            refine hK.out _ _ hS2 (fun hS => ?_)
            clear hK K hS2
            refine wpAnyH_done (by kernel_rfl) ?_ _
            go_wp2_with fail
            go_meet
            exact ⟨g1, some ⟨g7, 0, none⟩, c7, rfl, Lib.hid ⟨LWB.out.trans (hB.mono (Nat.le_trans LWB.out.size (Nat.le_of_eq HBB.out))), hrow2, own_LV (by first | (rw [List.length_append, List.length_map, HQ.out.2.2, flr_app]; exact own7) | exact own7)⟩⟩
        · go_simp
          have hN1 := heap_alloc_new w6yacb (.cells #[.slice none 0 0, .slice none 0 0, .slice none 0 0] 49)
          have hG1 : BB ≤ w6yacb.heap.size := Nat.le_trans (Nat.le_of_eq HBB.out.symm) hB.size
          have bA := (Below.refl w6yacb.heap.size w6yacb).alloc (Nat.le_refl _) (.cells #[.slice none 0 0, .slice none 0 0, .slice none 0 0] 49)
          have lt6 := (Array.getElem?_eq_some_iff.1 hN6).1
          replace hN6 := (bA.block _ lt6).trans hN6
          replace hB := hB.trans (bA.mono (Nat.le_trans (Nat.le_of_eq HBB.out.symm) hB.size))
          have hS2 := hB
          clear hS bA
          refine hK.out _ _ hS2 (fun hS => ?_)
          clear hK K hS2
          obtain ⟨g1, hg1⟩ : ∃ g, w6yacb.heap.size = g := ⟨_, rfl⟩
          replace hG1 : BB ≤ g1 := by omega
          rw [hg1] at hN1 ⊢
          obtain ⟨w1ybab, hw1⟩ : ∃ V, World.alloc w6yacb (.cells #[.slice none 0 0, .slice none 0 0, .slice none 0 0] 49) = V := ⟨_, rfl⟩
          rw [hw1] at hN1 hB hS hN6 ⊢
          clear hw1 hg1 lt6
          refine wpAnyH_ready (rs := [2]) (by kernel_rfl) (by simp) ?_
          refine (AllReadyH.cons (o := { dst := some 61, op := .buildSlice 38 0 #[], type := 38, pos := "law.go:106", after := #[], guard := none }) rfl (fun K hK => ?_) AllReadyH.nil)
          go_simp
          have own8 := own_emptyR w1ybab BB (Nat.le_trans (Nat.le_of_eq HBB.out.symm) hB.size)
          have hG8 : BB ≤ w1ybab.heap.size := Nat.le_trans (Nat.le_of_eq HBB.out.symm) hB.size
          have bA := (Below.refl w1ybab.heap.size w1ybab).alloc (Nat.le_refl _) (.cells #[] 26)
          have lt6 := (Array.getElem?_eq_some_iff.1 hN6).1
          replace hN6 := (bA.block _ lt6).trans hN6
          have lt1 := (Array.getElem?_eq_some_iff.1 hN1).1
          replace hN1 := (bA.block _ lt1).trans hN1
          replace hB := hB.trans (bA.mono (Nat.le_trans (Nat.le_of_eq HBB.out.symm) hB.size))
          have hS2 := hB
          clear hS bA
          refine hK.out _ _ hS2 (fun hS => ?_)
          clear hK K hS2
          obtain ⟨g8, hg8⟩ : ∃ g, w1ybab.heap.size = g := ⟨_, rfl⟩
          replace hG8 : BB ≤ g8 := by omega
          have ne86 : g8 ≠ g6 := by omega
          have ne81 : g8 ≠ g1 := by omega
          rw [hg8] at own8 ⊢
          obtain ⟨w8ybb, hw8⟩ : ∃ V, World.alloc w1ybab (.cells #[] 26) = V := ⟨_, rfl⟩
          rw [hw8] at own8 hB hS hN6 hN1 ⊢
          clear hw8 hg8 lt6 lt1
          refine wpAnyH_ready (rs := [4]) (by kernel_rfl) (by simp) ?_
          refine (AllReadyH.cons (o := { dst := some 63, op := .call { callee := .builtin .append, args := #[.tmp 61, .tmp 62], argTypes := #[38, 38] }, type := 38, pos := "law.go:106", after := #[⟨2, .data⟩, ⟨3, .data⟩], guard := none }) rfl (fun K hK => ?_) AllReadyH.nil)
          refine step_append_lies _ rfl _ _ 38 rfl BB 26 i0 (.agg #[.bool false, .string ⟨#[]⟩, .string ⟨#[]⟩]) 3 40 Tryz.underlying38 hi hz0 hz1 hz2 rfl (by decide) _ 0 [] rfl own8 ⟨bg, 0, none⟩ nQ cg (flr (Q.map qg)) rfl (by rw [flr_len, List.length_map, HQ.out.2.2]) (fun j u hj => by rw [Lib.add_plain, Nat.zero_add]; exact (hB.cell (p := ⟨bg, j, none⟩) (by rw [← HBB.out]; exact World.block_lt_of_cell? _ _ (HGC.out j u hj))).trans (HGC.out j u hj)) (flr_one _) (Nat.pos_of_ne_zero hnz) (by unfold maxLen; omega) (by omega) (Nat.le_trans (Nat.le_of_eq HBB.out.symm) hB.size) _ rfl ?_
          intro g9 c9 w9ybb hown9 hgrow9 hat9 hlt9
          have b9 : Below BB wd w9ybb := hB.grown hgrow9 (Nat.le_trans (Nat.le_of_eq HBB.out.symm) hB.size) (fun r hr => (own8.lt r hr).1)
          simp only [Nat.zero_add, List.nil_append] at hown9 ⊢
          have own9 := hown9
          have lt6 := (Array.getElem?_eq_some_iff.1 hN6).1
          have ne96 : g9 ≠ g6 := by
            rcases hat9 with h | h
            · injection (show some g8 = some g9 from h) with h; omega
            · omega
          replace hN6 := (hgrow9.block g6 lt6 (fun e => by injection (show some g6 = some g8 from e) with e; omega)).trans hN6
          clear lt6
          have lt1 := (Array.getElem?_eq_some_iff.1 hN1).1
          have ne91 : g9 ≠ g1 := by
            rcases hat9 with h | h
            · injection (show some g8 = some g9 from h) with h; omega
            · omega
          replace hN1 := (hgrow9.block g1 lt1 (fun e => by injection (show some g1 = some g8 from e) with e; omega)).trans hN1
          clear lt1
          replace hB := b9
          have hS2 := hB
          clear hS b9 hown9 hgrow9 hat9 hlt9 own8
          refine hK.out _ _ hS2 (fun hS => ?_)
          clear hK K hS2
          refine wpAnyH_ready (rs := [7]) (by kernel_rfl) (by simp) ?_
          refine (AllReadyH.cons (o := { dst := some 66, op := .call { callee := .builtin .append, args := #[.tmp 63, .tmp 65], argTypes := #[38, 38] }, type := 38, pos := "law.go:106", after := #[⟨4, .data⟩, ⟨6, .data⟩, ⟨4, .chain⟩], guard := none }) rfl (fun K hK => ?_) AllReadyH.nil)
          refine step_append_lies _ rfl _ _ 38 rfl BB 26 i0 (.agg #[.bool false, .string ⟨#[]⟩, .string ⟨#[]⟩]) 3 40 Tryz.underlying38 hi hz0 hz1 hz2 rfl (by decide) _ nQ (flr (Q.map qg)) rfl own9 ⟨g6, 0, none⟩ 1 1 [.bool gb, .string S1, .string S2] rfl rfl (World.news_of_block hN6) (by simp [Value.oneCell']) Nat.zero_lt_one (by unfold maxLen; omega) (by omega) (Nat.le_trans (Nat.le_of_eq HBB.out.symm) hB.size) _ rfl ?_
          intro g7 c7 w7ybb hown7 hgrow7 hat7 hlt7
          have b7 : Below BB wd w7ybb := hB.grown hgrow7 (Nat.le_trans (Nat.le_of_eq HBB.out.symm) hB.size) (fun r hr => (own9.lt r hr).1)
          have own7 := hown7
          have lt1 := (Array.getElem?_eq_some_iff.1 hN1).1
          have ne71 : g7 ≠ g1 := by
            rcases hat7 with h | h
            · injection (show some g9 = some g7 from h) with h; omega
            · omega
          replace hN1 := (hgrow7.block g1 lt1 (fun e => by injection (show some g1 = some g9 from e) with e; omega)).trans hN1
          clear lt1
          replace hB := b7
          have hS2 := hB
          clear hS b7 hown7 hgrow7 hat7 hlt7 own9 hN6
          refine hK.out _ _ hS2 (fun hS => ?_)
          clear hK K hS2
          refine wpAnyH_take (i := 8) (v := ?vybb8) rfl (by kernel_rfl) (by kernel_rfl) (by kernel_rfl) (fun _ _ _ h => h) (Or.inl ⟨by rfl, ?yybb8⟩) hS ?rybb8
          case yybb8 => (intro w hS; go_simp; try with_reducible rfl)
          go_simp
          refine wpAnyH_ready (rs := [10]) (by kernel_rfl) (by simp) ?_
          refine (AllReadyH.cons (o := { dst := none, op := .store 49 (.tmp 10) (.tmp 67), type := 0, pos := "law.go:106", after := #[⟨9, .data⟩, ⟨8, .data⟩, ⟨7, .chain⟩, ⟨0, .phase⟩, ⟨1, .phase⟩, ⟨2, .phase⟩, ⟨3, .phase⟩, ⟨4, .phase⟩, ⟨5, .phase⟩, ⟨6, .phase⟩, ⟨7, .phase⟩, ⟨8, .phase⟩, ⟨9, .phase⟩], guard := none }) rfl (fun K hK => ?_) AllReadyH.nil)
          rw [if_pos (by rfl)]
          refine wp_store_row 49 (.tmp 10) (.tmp 67) rfl g1 (#[.slice pa nQ ca, .slice (some ⟨bg, 0, none⟩) nQ cg, .slice (some ⟨g7, 0, none⟩) (nQ + 1) c7]) (by first | rfl | (simp [Act.eval])) (by first | rfl | (simp [Act.eval])) 49 #[.slice none 0 0, .slice none 0 0, .slice none 0 0] hN1 (by kernel_rfl) (by simp) (by simp [Value.oneCell']) ?_
          replace hB := Below.setRow' hB hG1 (#[.slice pa nQ ca, .slice (some ⟨bg, 0, none⟩) nQ cg, .slice (some ⟨g7, 0, none⟩) (nQ + 1) c7])
          have hS2 := hB
          have hrow2 := setRow_heap _ _ _ (#[.slice pa nQ ca, .slice (some ⟨bg, 0, none⟩) nQ cg, .slice (some ⟨g7, 0, none⟩) (nQ + 1) c7]) _ _ hN1
          replace own7 := own_rowne own7 g1 (#[.slice pa nQ ca, .slice (some ⟨bg, 0, none⟩) nQ cg, .slice (some ⟨g7, 0, none⟩) (nQ + 1) c7]) ne71
          clear hS
          refine hK.out _ _ hS2 (fun hS => ?_)
          clear hK K hS2
          refine wpAnyH_done (by kernel_rfl) ?_ _
          go_wp2_with fail
          go_meet
          exact ⟨g1, some ⟨g7, 0, none⟩, c7, rfl, Lib.hid ⟨LWB.out.trans (hB.mono (Nat.le_trans LWB.out.size (Nat.le_of_eq HBB.out))), hrow2, own_LV (by first | (rw [List.length_append, List.length_map, HQ.out.2.2, flr_app]; exact own7) | exact own7)⟩⟩
      · go_simp
        have hN1 := heap_alloc_new wd (.cells #[.slice none 0 0, .slice none 0 0, .slice none 0 0] 49)
        have hG1 : BB ≤ wd.heap.size := Nat.le_trans (Nat.le_of_eq HBB.out.symm) hB.size
        have bA := (Below.refl wd.heap.size wd).alloc (Nat.le_refl _) (.cells #[.slice none 0 0, .slice none 0 0, .slice none 0 0] 49)
        replace hB := hB.trans (bA.mono (Nat.le_trans (Nat.le_of_eq HBB.out.symm) hB.size))
        have hS2 := hB
        clear hS bA
        refine hK.out _ _ hS2 (fun hS => ?_)
        clear hK K hS2
        obtain ⟨g1, hg1⟩ : ∃ g, wd.heap.size = g := ⟨_, rfl⟩
        replace hG1 : BB ≤ g1 := by omega
        rw [hg1] at hN1 ⊢
        obtain ⟨w1ybb, hw1⟩ : ∃ V, World.alloc wd (.cells #[.slice none 0 0, .slice none 0 0, .slice none 0 0] 49) = V := ⟨_, rfl⟩
        rw [hw1] at hN1 hB hS  ⊢
        clear hw1 hg1 
        refine wpAnyH_ready (rs := [2, 6]) (by kernel_rfl) (by simp) ?_
        refine (AllReadyH.cons (o := { dst := some 61, op := .buildSlice 38 0 #[], type := 38, pos := "law.go:106", after := #[], guard := none }) rfl (fun K hK => ?_) (AllReadyH.cons (o := { dst := some 65, op := .buildSlice 38 1 #[(0, .tmp 64)], type := 38, pos := "law.go:106", after := #[⟨5, .data⟩], guard := none }) rfl (fun K hK => ?_) AllReadyH.nil))
        · go_simp
          have own8 := own_emptyR w1ybb BB (Nat.le_trans (Nat.le_of_eq HBB.out.symm) hB.size)
          have hG8 : BB ≤ w1ybb.heap.size := Nat.le_trans (Nat.le_of_eq HBB.out.symm) hB.size
          have bA := (Below.refl w1ybb.heap.size w1ybb).alloc (Nat.le_refl _) (.cells #[] 26)
          have lt1 := (Array.getElem?_eq_some_iff.1 hN1).1
          replace hN1 := (bA.block _ lt1).trans hN1
          replace hB := hB.trans (bA.mono (Nat.le_trans (Nat.le_of_eq HBB.out.symm) hB.size))
          have hS2 := hB
          clear hS bA
          refine hK.out _ _ hS2 (fun hS => ?_)
          clear hK K hS2
          obtain ⟨g8, hg8⟩ : ∃ g, w1ybb.heap.size = g := ⟨_, rfl⟩
          replace hG8 : BB ≤ g8 := by omega
          have ne81 : g8 ≠ g1 := by omega
          rw [hg8] at own8 ⊢
          obtain ⟨w8yc, hw8⟩ : ∃ V, World.alloc w1ybb (.cells #[] 26) = V := ⟨_, rfl⟩
          rw [hw8] at own8 hB hS hN1 ⊢
          clear hw8 hg8 lt1
          refine wpAnyH_ready (rs := [4, 6]) (by kernel_rfl) (by simp) ?_
          refine (AllReadyH.cons (o := { dst := some 63, op := .call { callee := .builtin .append, args := #[.tmp 61, .tmp 62], argTypes := #[38, 38] }, type := 38, pos := "law.go:106", after := #[⟨2, .data⟩, ⟨3, .data⟩], guard := none }) rfl (fun K hK => ?_) (AllReadyH.cons (o := { dst := some 65, op := .buildSlice 38 1 #[(0, .tmp 64)], type := 38, pos := "law.go:106", after := #[⟨5, .data⟩], guard := none }) rfl (fun K hK => ?_) AllReadyH.nil))
          · refine step_append_lies _ rfl _ _ 38 rfl BB 26 i0 (.agg #[.bool false, .string ⟨#[]⟩, .string ⟨#[]⟩]) 3 40 Tryz.underlying38 hi hz0 hz1 hz2 rfl (by decide) _ 0 [] rfl own8 ⟨bg, 0, none⟩ nQ cg (flr (Q.map qg)) rfl (by rw [flr_len, List.length_map, HQ.out.2.2]) (fun j u hj => by rw [Lib.add_plain, Nat.zero_add]; exact (hB.cell (p := ⟨bg, j, none⟩) (by rw [← HBB.out]; exact World.block_lt_of_cell? _ _ (HGC.out j u hj))).trans (HGC.out j u hj)) (flr_one _) (Nat.pos_of_ne_zero hnz) (by unfold maxLen; omega) (by omega) (Nat.le_trans (Nat.le_of_eq HBB.out.symm) hB.size) _ rfl ?_
            intro g9 c9 w9yca hown9 hgrow9 hat9 hlt9
            have b9 : Below BB wd w9yca := hB.grown hgrow9 (Nat.le_trans (Nat.le_of_eq HBB.out.symm) hB.size) (fun r hr => (own8.lt r hr).1)
            simp only [Nat.zero_add, List.nil_append] at hown9 ⊢
            have own9 := hown9
            have lt1 := (Array.getElem?_eq_some_iff.1 hN1).1
            have ne91 : g9 ≠ g1 := by
              rcases hat9 with h | h
              · injection (show some g8 = some g9 from h) with h; omega
              · omega
            replace hN1 := (hgrow9.block g1 lt1 (fun e => by injection (show some g1 = some g8 from e) with e; omega)).trans hN1
            clear lt1
            replace hB := b9
            have hS2 := hB
            clear hS b9 hown9 hgrow9 hat9 hlt9 own8
            refine hK.out _ _ hS2 (fun hS => ?_)
            clear hK K hS2
            refine wpAnyH_ready (rs := [6]) (by kernel_rfl) (by simp) ?_
            refine (AllReadyH.cons (o := { dst := some 65, op := .buildSlice 38 1 #[(0, .tmp 64)], type := 38, pos := "law.go:106", after := #[⟨5, .data⟩], guard := none }) rfl (fun K hK => ?_) AllReadyH.nil)
            go_simp
            have hN6 := heap_alloc_new w9yca (.cells #[.bool gb, .string S1, .string S2] 26)
            have hG6 : BB ≤ w9yca.heap.size := Nat.le_trans (Nat.le_of_eq HBB.out.symm) hB.size
            have bA := (Below.refl w9yca.heap.size w9yca).alloc (Nat.le_refl _) (.cells #[.bool gb, .string S1, .string S2] 26)
            have lt1 := (Array.getElem?_eq_some_iff.1 hN1).1
            replace hN1 := (bA.block _ lt1).trans hN1
            have lt9 := own_lt own9
            replace own9 := own_stay own9 bA
            replace hB := hB.trans (bA.mono (Nat.le_trans (Nat.le_of_eq HBB.out.symm) hB.size))
            have hS2 := hB
            clear hS bA
            refine hK.out _ _ hS2 (fun hS => ?_)
            clear hK K hS2
            obtain ⟨g6, hg6⟩ : ∃ g, w9yca.heap.size = g := ⟨_, rfl⟩
            replace hG6 : BB ≤ g6 := by omega
            have ne96 : g9 ≠ g6 := by omega
            rw [hg6] at hN6 ⊢
            obtain ⟨w6ycaa, hw6⟩ : ∃ V, World.alloc w9yca (.cells #[.bool gb, .string S1, .string S2] 26) = V := ⟨_, rfl⟩
            rw [hw6] at hN6 hB hS hN1 own9 ⊢
            clear hw6 hg6 lt1 lt9
            refine wpAnyH_ready (rs := [7]) (by kernel_rfl) (by simp) ?_
            refine (AllReadyH.cons (o := { dst := some 66, op := .call { callee := .builtin .append, args := #[.tmp 63, .tmp 65], argTypes := #[38, 38] }, type := 38, pos := "law.go:106", after := #[⟨4, .data⟩, ⟨6, .data⟩, ⟨4, .chain⟩], guard := none }) rfl (fun K hK => ?_) AllReadyH.nil)
            refine step_append_lies _ rfl _ _ 38 rfl BB 26 i0 (.agg #[.bool false, .string ⟨#[]⟩, .string ⟨#[]⟩]) 3 40 Tryz.underlying38 hi hz0 hz1 hz2 rfl (by decide) _ nQ (flr (Q.map qg)) rfl own9 ⟨g6, 0, none⟩ 1 1 [.bool gb, .string S1, .string S2] rfl rfl (World.news_of_block hN6) (by simp [Value.oneCell']) Nat.zero_lt_one (by unfold maxLen; omega) (by omega) (Nat.le_trans (Nat.le_of_eq HBB.out.symm) hB.size) _ rfl ?_
            intro g7 c7 w7ycaa hown7 hgrow7 hat7 hlt7
            have b7 : Below BB wd w7ycaa := hB.grown hgrow7 (Nat.le_trans (Nat.le_of_eq HBB.out.symm) hB.size) (fun r hr => (own9.lt r hr).1)
            have own7 := hown7
            have lt1 := (Array.getElem?_eq_some_iff.1 hN1).1
            have ne71 : g7 ≠ g1 := by
              rcases hat7 with h | h
              · injection (show some g9 = some g7 from h) with h; omega
              · omega
            replace hN1 := (hgrow7.block g1 lt1 (fun e => by injection (show some g1 = some g9 from e) with e; omega)).trans hN1
            clear lt1
            replace hB := b7
            have hS2 := hB
            clear hS b7 hown7 hgrow7 hat7 hlt7 own9 hN6
            refine hK.out _ _ hS2 (fun hS => ?_)
            clear hK K hS2
            refine wpAnyH_take (i := 8) (v := ?vycaa8) rfl (by kernel_rfl) (by kernel_rfl) (by kernel_rfl) (fun _ _ _ h => h) (Or.inl ⟨by rfl, ?yycaa8⟩) hS ?rycaa8
            case yycaa8 => (intro w hS; go_simp; try with_reducible rfl)
            go_simp
            refine wpAnyH_ready (rs := [10]) (by kernel_rfl) (by simp) ?_
            refine (AllReadyH.cons (o := { dst := none, op := .store 49 (.tmp 10) (.tmp 67), type := 0, pos := "law.go:106", after := #[⟨9, .data⟩, ⟨8, .data⟩, ⟨7, .chain⟩, ⟨0, .phase⟩, ⟨1, .phase⟩, ⟨2, .phase⟩, ⟨3, .phase⟩, ⟨4, .phase⟩, ⟨5, .phase⟩, ⟨6, .phase⟩, ⟨7, .phase⟩, ⟨8, .phase⟩, ⟨9, .phase⟩], guard := none }) rfl (fun K hK => ?_) AllReadyH.nil)
            rw [if_pos (by rfl)]
            refine wp_store_row 49 (.tmp 10) (.tmp 67) rfl g1 (#[.slice pa nQ ca, .slice (some ⟨bg, 0, none⟩) nQ cg, .slice (some ⟨g7, 0, none⟩) (nQ + 1) c7]) (by first | rfl | (simp [Act.eval])) (by first | rfl | (simp [Act.eval])) 49 #[.slice none 0 0, .slice none 0 0, .slice none 0 0] hN1 (by kernel_rfl) (by simp) (by simp [Value.oneCell']) ?_
            replace hB := Below.setRow' hB hG1 (#[.slice pa nQ ca, .slice (some ⟨bg, 0, none⟩) nQ cg, .slice (some ⟨g7, 0, none⟩) (nQ + 1) c7])
            have hS2 := hB
            have hrow2 := setRow_heap _ _ _ (#[.slice pa nQ ca, .slice (some ⟨bg, 0, none⟩) nQ cg, .slice (some ⟨g7, 0, none⟩) (nQ + 1) c7]) _ _ hN1
            replace own7 := own_rowne own7 g1 (#[.slice pa nQ ca, .slice (some ⟨bg, 0, none⟩) nQ cg, .slice (some ⟨g7, 0, none⟩) (nQ + 1) c7]) ne71
            clear hS
            refine hK.out _ _ hS2 (fun hS => ?_)
            clear hK K hS2
            refine wpAnyH_done (by kernel_rfl) ?_ _
            go_wp2_with fail
            go_meet
            exact ⟨g1, some ⟨g7, 0, none⟩, c7, rfl, Lib.hid ⟨LWB.out.trans (hB.mono (Nat.le_trans LWB.out.size (Nat.le_of_eq HBB.out))), hrow2, own_LV (by first | (rw [List.length_append, List.length_map, HQ.out.2.2, flr_app]; exact own7) | exact own7)⟩⟩
          · go_simp
            have hN6 := heap_alloc_new w8yc (.cells #[.bool gb, .string S1, .string S2] 26)
            have hG6 : BB ≤ w8yc.heap.size := Nat.le_trans (Nat.le_of_eq HBB.out.symm) hB.size
            have bA := (Below.refl w8yc.heap.size w8yc).alloc (Nat.le_refl _) (.cells #[.bool gb, .string S1, .string S2] 26)
            have lt1 := (Array.getElem?_eq_some_iff.1 hN1).1
            replace hN1 := (bA.block _ lt1).trans hN1
            have lt8 := own_lt own8
            replace own8 := own_stay own8 bA
            replace hB := hB.trans (bA.mono (Nat.le_trans (Nat.le_of_eq HBB.out.symm) hB.size))
            have hS2 := hB
            clear hS bA
            refine hK.out _ _ hS2 (fun hS => ?_)
            clear hK K hS2
            obtain ⟨g6, hg6⟩ : ∃ g, w8yc.heap.size = g := ⟨_, rfl⟩
            replace hG6 : BB ≤ g6 := by omega
            have ne86 : g8 ≠ g6 := by omega
            rw [hg6] at hN6 ⊢
            obtain ⟨w6ycaa, hw6⟩ : ∃ V, World.alloc w8yc (.cells #[.bool gb, .string S1, .string S2] 26) = V := ⟨_, rfl⟩
            rw [hw6] at hN6 hB hS hN1 own8 ⊢
            clear hw6 hg6 lt1 lt8
            refine wpAnyH_ready (rs := [4]) (by kernel_rfl) (by simp) ?_
            refine (AllReadyH.cons (o := { dst := some 63, op := .call { callee := .builtin .append, args := #[.tmp 61, .tmp 62], argTypes := #[38, 38] }, type := 38, pos := "law.go:106", after := #[⟨2, .data⟩, ⟨3, .data⟩], guard := none }) rfl (fun K hK => ?_) AllReadyH.nil)
            refine step_append_lies _ rfl _ _ 38 rfl BB 26 i0 (.agg #[.bool false, .string ⟨#[]⟩, .string ⟨#[]⟩]) 3 40 Tryz.underlying38 hi hz0 hz1 hz2 rfl (by decide) _ 0 [] rfl own8 ⟨bg, 0, none⟩ nQ cg (flr (Q.map qg)) rfl (by rw [flr_len, List.length_map, HQ.out.2.2]) (fun j u hj => by rw [Lib.add_plain, Nat.zero_add]; exact (hB.cell (p := ⟨bg, j, none⟩) (by rw [← HBB.out]; exact World.block_lt_of_cell? _ _ (HGC.out j u hj))).trans (HGC.out j u hj)) (flr_one _) (Nat.pos_of_ne_zero hnz) (by unfold maxLen; omega) (by omega) (Nat.le_trans (Nat.le_of_eq HBB.out.symm) hB.size) _ rfl ?_
            intro g9 c9 w9ycab hown9 hgrow9 hat9 hlt9
            have b9 : Below BB wd w9ycab := hB.grown hgrow9 (Nat.le_trans (Nat.le_of_eq HBB.out.symm) hB.size) (fun r hr => (own8.lt r hr).1)
            simp only [Nat.zero_add, List.nil_append] at hown9 ⊢
            have own9 := hown9
            have lt1 := (Array.getElem?_eq_some_iff.1 hN1).1
            have ne91 : g9 ≠ g1 := by
              rcases hat9 with h | h
              · injection (show some g8 = some g9 from h) with h; omega
              · omega
            replace hN1 := (hgrow9.block g1 lt1 (fun e => by injection (show some g1 = some g8 from e) with e; omega)).trans hN1
            clear lt1
            have lt6 := (Array.getElem?_eq_some_iff.1 hN6).1
            have ne96 : g9 ≠ g6 := by
              rcases hat9 with h | h
              · injection (show some g8 = some g9 from h) with h; omega
              · omega
            replace hN6 := (hgrow9.block g6 lt6 (fun e => by injection (show some g6 = some g8 from e) with e; omega)).trans hN6
            clear lt6
            replace hB := b9
            have hS2 := hB
            clear hS b9 hown9 hgrow9 hat9 hlt9 own8
            refine hK.out _ _ hS2 (fun hS => ?_)
            clear hK K hS2
            refine wpAnyH_ready (rs := [7]) (by kernel_rfl) (by simp) ?_
            refine (AllReadyH.cons (o := { dst := some 66, op := .call { callee := .builtin .append, args := #[.tmp 63, .tmp 65], argTypes := #[38, 38] }, type := 38, pos := "law.go:106", after := #[⟨4, .data⟩, ⟨6, .data⟩, ⟨4, .chain⟩], guard := none }) rfl (fun K hK => ?_) AllReadyH.nil)
            refine step_append_lies _ rfl _ _ 38 rfl BB 26 i0 (.agg #[.bool false, .string ⟨#[]⟩, .string ⟨#[]⟩]) 3 40 Tryz.underlying38 hi hz0 hz1 hz2 rfl (by decide) _ nQ (flr (Q.map qg)) rfl own9 ⟨g6, 0, none⟩ 1 1 [.bool gb, .string S1, .string S2] rfl rfl (World.news_of_block hN6) (by simp [Value.oneCell']) Nat.zero_lt_one (by unfold maxLen; omega) (by omega) (Nat.le_trans (Nat.le_of_eq HBB.out.symm) hB.size) _ rfl ?_
            intro g7 c7 w7ycab hown7 hgrow7 hat7 hlt7
            have b7 : Below BB wd w7ycab := hB.grown hgrow7 (Nat.le_trans (Nat.le_of_eq HBB.out.symm) hB.size) (fun r hr => (own9.lt r hr).1)
            have own7 := hown7
            have lt1 := (Array.getElem?_eq_some_iff.1 hN1).1
            have ne71 : g7 ≠ g1 := by
              rcases hat7 with h | h
              · injection (show some g9 = some g7 from h) with h; omega
              · omega
            replace hN1 := (hgrow7.block g1 lt1 (fun e => by injection (show some g1 = some g9 from e) with e; omega)).trans hN1
            clear lt1
            replace hB := b7
            have hS2 := hB
            clear hS b7 hown7 hgrow7 hat7 hlt7 own9 hN6
            refine hK.out _ _ hS2 (fun hS => ?_)
            clear hK K hS2
            refine wpAnyH_take (i := 8) (v := ?vycab8) rfl (by kernel_rfl) (by kernel_rfl) (by kernel_rfl) (fun _ _ _ h => h) (Or.inl ⟨by rfl, ?yycab8⟩) hS ?rycab8
            case yycab8 => (intro w hS; go_simp; try with_reducible rfl)
            go_simp
            refine wpAnyH_ready (rs := [10]) (by kernel_rfl) (by simp) ?_
            refine (AllReadyH.cons (o := { dst := none, op := .store 49 (.tmp 10) (.tmp 67), type := 0, pos := "law.go:106", after := #[⟨9, .data⟩, ⟨8, .data⟩, ⟨7, .chain⟩, ⟨0, .phase⟩, ⟨1, .phase⟩, ⟨2, .phase⟩, ⟨3, .phase⟩, ⟨4, .phase⟩, ⟨5, .phase⟩, ⟨6, .phase⟩, ⟨7, .phase⟩, ⟨8, .phase⟩, ⟨9, .phase⟩], guard := none }) rfl (fun K hK => ?_) AllReadyH.nil)
            rw [if_pos (by rfl)]
            refine wp_store_row 49 (.tmp 10) (.tmp 67) rfl g1 (#[.slice pa nQ ca, .slice (some ⟨bg, 0, none⟩) nQ cg, .slice (some ⟨g7, 0, none⟩) (nQ + 1) c7]) (by first | rfl | (simp [Act.eval])) (by first | rfl | (simp [Act.eval])) 49 #[.slice none 0 0, .slice none 0 0, .slice none 0 0] hN1 (by kernel_rfl) (by simp) (by simp [Value.oneCell']) ?_
            replace hB := Below.setRow' hB hG1 (#[.slice pa nQ ca, .slice (some ⟨bg, 0, none⟩) nQ cg, .slice (some ⟨g7, 0, none⟩) (nQ + 1) c7])
            have hS2 := hB
            have hrow2 := setRow_heap _ _ _ (#[.slice pa nQ ca, .slice (some ⟨bg, 0, none⟩) nQ cg, .slice (some ⟨g7, 0, none⟩) (nQ + 1) c7]) _ _ hN1
            replace own7 := own_rowne own7 g1 (#[.slice pa nQ ca, .slice (some ⟨bg, 0, none⟩) nQ cg, .slice (some ⟨g7, 0, none⟩) (nQ + 1) c7]) ne71
            clear hS
            refine hK.out _ _ hS2 (fun hS => ?_)
            clear hK K hS2
            refine wpAnyH_done (by kernel_rfl) ?_ _
            go_wp2_with fail
            go_meet
            exact ⟨g1, some ⟨g7, 0, none⟩, c7, rfl, Lib.hid ⟨LWB.out.trans (hB.mono (Nat.le_trans LWB.out.size (Nat.le_of_eq HBB.out))), hrow2, own_LV (by first | (rw [List.length_append, List.length_map, HQ.out.2.2, flr_app]; exact own7) | exact own7)⟩⟩
        · go_simp
          have hN6 := heap_alloc_new w1ybb (.cells #[.bool gb, .string S1, .string S2] 26)
          have hG6 : BB ≤ w1ybb.heap.size := Nat.le_trans (Nat.le_of_eq HBB.out.symm) hB.size
          have bA := (Below.refl w1ybb.heap.size w1ybb).alloc (Nat.le_refl _) (.cells #[.bool gb, .string S1, .string S2] 26)
          have lt1 := (Array.getElem?_eq_some_iff.1 hN1).1
          replace hN1 := (bA.block _ lt1).trans hN1
          replace hB := hB.trans (bA.mono (Nat.le_trans (Nat.le_of_eq HBB.out.symm) hB.size))
          have hS2 := hB
          clear hS bA
          refine hK.out _ _ hS2 (fun hS => ?_)
          clear hK K hS2
          obtain ⟨g6, hg6⟩ : ∃ g, w1ybb.heap.size = g := ⟨_, rfl⟩
          replace hG6 : BB ≤ g6 := by omega
          rw [hg6] at hN6 ⊢
          obtain ⟨w6ycab, hw6⟩ : ∃ V, World.alloc w1ybb (.cells #[.bool gb, .string S1, .string S2] 26) = V := ⟨_, rfl⟩
          rw [hw6] at hN6 hB hS hN1 ⊢
          clear hw6 hg6 lt1
          refine wpAnyH_ready (rs := [2]) (by kernel_rfl) (by simp) ?_
          refine (AllReadyH.cons (o := { dst := some 61, op := .buildSlice 38 0 #[], type := 38, pos := "law.go:106", after := #[], guard := none }) rfl (fun K hK => ?_) AllReadyH.nil)
          go_simp
          have own8 := own_emptyR w6ycab BB (Nat.le_trans (Nat.le_of_eq HBB.out.symm) hB.size)
          have hG8 : BB ≤ w6ycab.heap.size := Nat.le_trans (Nat.le_of_eq HBB.out.symm) hB.size
          have bA := (Below.refl w6ycab.heap.size w6ycab).alloc (Nat.le_refl _) (.cells #[] 26)
          have lt1 := (Array.getElem?_eq_some_iff.1 hN1).1
          replace hN1 := (bA.block _ lt1).trans hN1
          have lt6 := (Array.getElem?_eq_some_iff.1 hN6).1
          replace hN6 := (bA.block _ lt6).trans hN6
          replace hB := hB.trans (bA.mono (Nat.le_trans (Nat.le_of_eq HBB.out.symm) hB.size))
          have hS2 := hB
          clear hS bA
          refine hK.out _ _ hS2 (fun hS => ?_)
          clear hK K hS2
          obtain ⟨g8, hg8⟩ : ∃ g, w6ycab.heap.size = g := ⟨_, rfl⟩
          replace hG8 : BB ≤ g8 := by omega
          have ne81 : g8 ≠ g1 := by omega
          have ne86 : g8 ≠ g6 := by omega
          rw [hg8] at own8 ⊢
          obtain ⟨w8ycb, hw8⟩ : ∃ V, World.alloc w6ycab (.cells #[] 26) = V := ⟨_, rfl⟩
          rw [hw8] at own8 hB hS hN1 hN6 ⊢
          clear hw8 hg8 lt1 lt6
          refine wpAnyH_ready (rs := [4]) (by kernel_rfl) (by simp) ?_
          refine (AllReadyH.cons (o := { dst := some 63, op := .call { callee := .builtin .append, args := #[.tmp 61, .tmp 62], argTypes := #[38, 38] }, type := 38, pos := "law.go:106", after := #[⟨2, .data⟩, ⟨3, .data⟩], guard := none }) rfl (fun K hK => ?_) AllReadyH.nil)
          refine step_append_lies _ rfl _ _ 38 rfl BB 26 i0 (.agg #[.bool false, .string ⟨#[]⟩, .string ⟨#[]⟩]) 3 40 Tryz.underlying38 hi hz0 hz1 hz2 rfl (by decide) _ 0 [] rfl own8 ⟨bg, 0, none⟩ nQ cg (flr (Q.map qg)) rfl (by rw [flr_len, List.length_map, HQ.out.2.2]) (fun j u hj => by rw [Lib.add_plain, Nat.zero_add]; exact (hB.cell (p := ⟨bg, j, none⟩) (by rw [← HBB.out]; exact World.block_lt_of_cell? _ _ (HGC.out j u hj))).trans (HGC.out j u hj)) (flr_one _) (Nat.pos_of_ne_zero hnz) (by unfold maxLen; omega) (by omega) (Nat.le_trans (Nat.le_of_eq HBB.out.symm) hB.size) _ rfl ?_
          intro g9 c9 w9ycb hown9 hgrow9 hat9 hlt9
          have b9 : Below BB wd w9ycb := hB.grown hgrow9 (Nat.le_trans (Nat.le_of_eq HBB.out.symm) hB.size) (fun r hr => (own8.lt r hr).1)
          simp only [Nat.zero_add, List.nil_append] at hown9 ⊢
          have own9 := hown9
          have lt1 := (Array.getElem?_eq_some_iff.1 hN1).1
          have ne91 : g9 ≠ g1 := by
            rcases hat9 with h | h
            · injection (show some g8 = some g9 from h) with h; omega
            · omega
          replace hN1 := (hgrow9.block g1 lt1 (fun e => by injection (show some g1 = some g8 from e) with e; omega)).trans hN1
          clear lt1
          have lt6 := (Array.getElem?_eq_some_iff.1 hN6).1
          have ne96 : g9 ≠ g6 := by
            rcases hat9 with h | h
            · injection (show some g8 = some g9 from h) with h; omega
            · omega
          replace hN6 := (hgrow9.block g6 lt6 (fun e => by injection (show some g6 = some g8 from e) with e; omega)).trans hN6
          clear lt6
          replace hB := b9
          have hS2 := hB
          clear hS b9 hown9 hgrow9 hat9 hlt9 own8
          refine hK.out _ _ hS2 (fun hS => ?_)
          clear hK K hS2
          refine wpAnyH_ready (rs := [7]) (by kernel_rfl) (by simp) ?_
          refine (AllReadyH.cons (o := { dst := some 66, op := .call { callee := .builtin .append, args := #[.tmp 63, .tmp 65], argTypes := #[38, 38] }, type := 38, pos := "law.go:106", after := #[⟨4, .data⟩, ⟨6, .data⟩, ⟨4, .chain⟩], guard := none }) rfl (fun K hK => ?_) AllReadyH.nil)
          refine step_append_lies _ rfl _ _ 38 rfl BB 26 i0 (.agg #[.bool false, .string ⟨#[]⟩, .string ⟨#[]⟩]) 3 40 Tryz.underlying38 hi hz0 hz1 hz2 rfl (by decide) _ nQ (flr (Q.map qg)) rfl own9 ⟨g6, 0, none⟩ 1 1 [.bool gb, .string S1, .string S2] rfl rfl (World.news_of_block hN6) (by simp [Value.oneCell']) Nat.zero_lt_one (by unfold maxLen; omega) (by omega) (Nat.le_trans (Nat.le_of_eq HBB.out.symm) hB.size) _ rfl ?_
          intro g7 c7 w7ycb hown7 hgrow7 hat7 hlt7
          have b7 : Below BB wd w7ycb := hB.grown hgrow7 (Nat.le_trans (Nat.le_of_eq HBB.out.symm) hB.size) (fun r hr => (own9.lt r hr).1)
          have own7 := hown7
          have lt1 := (Array.getElem?_eq_some_iff.1 hN1).1
          have ne71 : g7 ≠ g1 := by
            rcases hat7 with h | h
            · injection (show some g9 = some g7 from h) with h; omega
            · omega
          replace hN1 := (hgrow7.block g1 lt1 (fun e => by injection (show some g1 = some g9 from e) with e; omega)).trans hN1
          clear lt1
          replace hB := b7
          have hS2 := hB
          clear hS b7 hown7 hgrow7 hat7 hlt7 own9 hN6
          refine hK.out _ _ hS2 (fun hS => ?_)
          clear hK K hS2
          refine wpAnyH_take (i := 8) (v := ?vycb8) rfl (by kernel_rfl) (by kernel_rfl) (by kernel_rfl) (fun _ _ _ h => h) (Or.inl ⟨by rfl, ?yycb8⟩) hS ?rycb8
          case yycb8 => (intro w hS; go_simp; try with_reducible rfl)
          go_simp
          refine wpAnyH_ready (rs := [10]) (by kernel_rfl) (by simp) ?_
          refine (AllReadyH.cons (o := { dst := none, op := .store 49 (.tmp 10) (.tmp 67), type := 0, pos := "law.go:106", after := #[⟨9, .data⟩, ⟨8, .data⟩, ⟨7, .chain⟩, ⟨0, .phase⟩, ⟨1, .phase⟩, ⟨2, .phase⟩, ⟨3, .phase⟩, ⟨4, .phase⟩, ⟨5, .phase⟩, ⟨6, .phase⟩, ⟨7, .phase⟩, ⟨8, .phase⟩, ⟨9, .phase⟩], guard := none }) rfl (fun K hK => ?_) AllReadyH.nil)
          rw [if_pos (by rfl)]
          refine wp_store_row 49 (.tmp 10) (.tmp 67) rfl g1 (#[.slice pa nQ ca, .slice (some ⟨bg, 0, none⟩) nQ cg, .slice (some ⟨g7, 0, none⟩) (nQ + 1) c7]) (by first | rfl | (simp [Act.eval])) (by first | rfl | (simp [Act.eval])) 49 #[.slice none 0 0, .slice none 0 0, .slice none 0 0] hN1 (by kernel_rfl) (by simp) (by simp [Value.oneCell']) ?_
          replace hB := Below.setRow' hB hG1 (#[.slice pa nQ ca, .slice (some ⟨bg, 0, none⟩) nQ cg, .slice (some ⟨g7, 0, none⟩) (nQ + 1) c7])
          have hS2 := hB
          have hrow2 := setRow_heap _ _ _ (#[.slice pa nQ ca, .slice (some ⟨bg, 0, none⟩) nQ cg, .slice (some ⟨g7, 0, none⟩) (nQ + 1) c7]) _ _ hN1
          replace own7 := own_rowne own7 g1 (#[.slice pa nQ ca, .slice (some ⟨bg, 0, none⟩) nQ cg, .slice (some ⟨g7, 0, none⟩) (nQ + 1) c7]) ne71
          clear hS
          refine hK.out _ _ hS2 (fun hS => ?_)
          clear hK K hS2
          refine wpAnyH_done (by kernel_rfl) ?_ _
          go_wp2_with fail
          go_meet
          exact ⟨g1, some ⟨g7, 0, none⟩, c7, rfl, Lib.hid ⟨LWB.out.trans (hB.mono (Nat.le_trans LWB.out.size (Nat.le_of_eq HBB.out))), hrow2, own_LV (by first | (rw [List.length_append, List.length_map, HQ.out.2.2, flr_app]; exact own7) | exact own7)⟩⟩
  case rest =>
  obtain ⟨g1, pr, cr, rfl, HL⟩ := hcut
  have K6 := Lib.hid (K5.out.next HL.out.1)
  have HLG6 := Lib.hid (HLG.out.next HL.out.1)
  have H3 := Lib.hid (lists3 HL.out.2.1 K6.out.a HLG6.out HL.out.2.2 ⟨szl_q3 Q HQ.out.2.1, by rw [List.length_map]; have := HQ.out.1; omega⟩ ⟨szl_qg Q HQ.out.2.1, by rw [List.length_map]; have := HQ.out.1; omega⟩
    ⟨fun t ht => by
      rcases List.mem_append.1 ht with ht | ht
      · exact szl_qg Q HQ.out.2.1 t ht
      · rw [List.mem_singleton.1 ht]; exact HN.out, by rw [List.length_append, List.length_map]; have := HQ.out.1; show Q.length + 1 ≤ 13; omega⟩)
  have HC := Lib.hid (CC0.out Q HQ.out.1 HQ.out.2.1)
  clear HL HG K5 HLG HCL HTp CC0 HN K4
  go_upto_block 2 with fail
  go_cut [11] from 68 to 102 (fun _ wx => Hid (Below wc.heap.size wc wx))
  case first =>
    go_wp2_with fail
    go_loopw [11] (fun i wr => ∃ j : Nat, j ≤ 3 ∧ i = .int .i64 (j : Int) ∧ Hid (Below wc.heap.size wc wr)) (fun i _ => 3 - (match i with | .int _ i => i.toNat | _ => 0))
    case atStart => exact ⟨0, by omega, rfl, Lib.hid (Below.refl _ _)⟩
    case round =>
      obtain ⟨j, hj, rfl, hR⟩ := hrel
      by_cases hlj : j < 3
      · obtain ⟨v, l, d0, hlv, hsz, hln⟩ := H3.out j hlj
        replace d0 := (hR.out.cell (p := ⟨g1, j, none⟩) (World.block_lt_of_cell? _ _ d0)).trans d0
        have hlv1 := hlv.next hR.out
        have C1 := Lib.hid fun W (h : LV W v l) (t : Tp W) => CP.out W v l h hsz hln t
        have C2 := Lib.hid fun W (h : LV W v l) => CR.out W v l h hsz hln
        have hT1 := K6.out.t.below hR.out
        have hcl := cL_len l
        have HLL := Lib.hid (show (cL l).length ≤ 13 by omega)
        generalize cD l = D at *
        generalize cO l = o at *
        generalize cL l = LL at *
        have HV := Lib.hid (And.intro hlv1 hT1)
        clear hlv hsz hln hlv1 hT1 hcl
        go_wp2_with fail
        refine (C1.out _ HV.out.1 HV.out.2).mono ?_
        rintro e w5 ⟨v1, rfl, s1, b5⟩
        have hR5 := Lib.hid (hR.out.trans (b5.mono hR.out.size))
        have HV5 := Lib.hid (And.intro (HV.out.1.next b5) s1)
        replace d0 := (b5.cell (p := ⟨g1, j, none⟩) (World.block_lt_of_cell? _ _ d0)).trans d0
        clear b5 s1 HV hR C1
        go_wp2_with fail
        clear d0
        refine (C2.out _ HV5.out.1).mono ?_
        rintro e w6 ⟨v2, rfl, s2, b6⟩
        have hR6 := Lib.hid (hR5.out.trans (b6.mono hR5.out.size))
        have HV6 := Lib.hid (And.intro (HV5.out.2.next b6) s2)
        clear b6 s2 HV5 hR5 C2
        go_wp2_with fail
        refine (SM.out _ _ _ _ HV6.out.1 HV6.out.2 HLL.out).mono ?_
        rintro e w7 ⟨rfl, b7⟩
        have hR7 := Lib.hid (hR6.out.trans (b7.mono hR6.out.size))
        clear b7 HV6 hR6
        go_wp2
        exact ⟨⟨j + 1, by omega, by go_num, hR7⟩, by simp; omega⟩
      · obtain rfl : j = 3 := by omega
        go_wp2_with fail
        go_meet
        exact hR
  case rest =>
  have K7 := Lib.hid (K6.out.next hcut.out)
  have HLG7 := Lib.hid (HLG6.out.next hcut.out)
  clear H3 K6 HLG6 hcut
  have C1 := Lib.hid fun W (h : LV W (.slice pg nQ cg) (Q.map qg)) (t : Tp W) => CP.out W _ _ h (szl_qg Q HQ.out.2.1) (by rw [List.length_map]; have := HQ.out.1; omega) t
  have hok := HC.out.ok
  have hll := HC.out.ll
  rw [hok, hll] at C1
  clear CP CR SM hok hll
  obtain ⟨D, hD⟩ : ∃ D, cD (Q.map qg) = D := ⟨_, rfl⟩
  rw [hD] at C1
  have HD := Lib.hid hD
  clear hD
  go_wp2_with fail
  refine (C1.out _ HLG7.out K7.out.t).mono ?_
  rintro e w8 ⟨nv, rfl, hs8, b8⟩
  have K8 := Lib.hid (K7.out.next b8)
  have HLG8 := Lib.hid (HLG7.out.next b8)
  obtain ⟨pn, cn, rfl, hns⟩ := id hs8
  rw [wl_len, List.length_map, HQ.out.2.2]
  have HNS := Lib.hid hns
  clear b8 K7 HLG7 C1 hs8 hns
  have hpn : ((nQ : Int) != (nQ : Int)) = false := bne_self_eq_false _
  go_wp2_with fail
  clear hpn
  refine (aOf _ 0 (sumq ((Q.map qg).take 0)) (by rw [List.take_zero]; rfl) (by decide)).mono ?_
  rintro e w9 ⟨rfl, b9⟩
  have K9 := Lib.hid (K8.out.next b9)
  have HLG9 := Lib.hid (HLG8.out.next b9)
  have HB9 := Lib.hid b9
  clear b9 K8 HLG8
  have hsc : ∀ k, ∃ b x y, qcells (sumq ((Q.map qg).take k)) = #[.bool b, .string x, .string y] := fun k => ⟨_, _, _, rfl⟩
  obtain ⟨sb, hsb⟩ := Classical.axiomOfChoice hsc
  obtain ⟨sx, hsx⟩ := Classical.axiomOfChoice hsb
  obtain ⟨sy, hsy⟩ := Classical.axiomOfChoice hsx
  clear hsc hsb hsx
  have AD := fun k (hk : k < Q.length) => HC.out.ad k hk
  simp only [hsy] at AD
  have SU := HC.out.su
  have hfull : sumq (Q.map qg) = sumq ((Q.map qg).take nQ) := by rw [List.take_of_length_le (by rw [List.length_map, HQ.out.2.2]; exact Nat.le_refl _)]
  rw [hfull] at SU
  simp only [hsy] at SU
  rw [hsy]
  have AD := Lib.hid AD
  have SU := Lib.hid SU
  have MK := HC.out.make
  rw [HD.out] at MK
  have MK := Lib.hid MK
  clear hfull hsy HC
  have m7 : (w9.alloc (.cells #[.bool false, .string ⟨#[]⟩, .string ⟨#[]⟩] 26)).heap[w9.heap.size]? = some (.cells #[.bool false, .string ⟨#[]⟩, .string ⟨#[]⟩] 26 (0, 0)) := heap_alloc_new _ _
  go_upto_region 24 with (refine wpList_store_row rfl 26 (.tmp 21) (.tmp 117) rfl w9.heap.size #[.bool (sb 0), .string (sx 0), .string (sy 0)] rfl rfl 26 _ m7 (infoW3 _ _ _).out (w3_size _ _ _ _ _ _) (w3_one _ _ _) ?_)
  have b6 : Below w9.heap.size w9 ((w9.alloc (.cells #[.bool false, .string ⟨#[]⟩, .string ⟨#[]⟩] 26)).setRow w9.heap.size #[.bool (sb 0), .string (sx 0), .string (sy 0)]) := Below.setRow' ((Below.refl w9.heap.size w9).alloc (Nat.le_refl _) _) (Nat.le_refl _) _
  have m6 : PX ((w9.alloc (.cells #[.bool false, .string ⟨#[]⟩, .string ⟨#[]⟩] 26)).setRow w9.heap.size #[.bool (sb 0), .string (sx 0), .string (sy 0)]) w9.heap.size (sb 0) (sx 0) (sy 0) := setRow_heap _ _ _ _ _ _ m7
  clear m7
  try change Code.wp _ _ _ _ ((w9.alloc (.cells #[.bool false, .string ⟨#[]⟩, .string ⟨#[]⟩] 26)).setRow w9.heap.size #[.bool (sb 0), .string (sx 0), .string (sy 0)])
  generalize (w9.alloc (.cells #[.bool false, .string ⟨#[]⟩, .string ⟨#[]⟩] 26)).setRow w9.heap.size #[.bool (sb 0), .string (sx 0), .string (sy 0)] = v9 at *
  obtain ⟨g9, hg9⟩ : ∃ g, w9.heap.size = g := ⟨_, rfl⟩
  rw [hg9] at m6 b6 ⊢
  have H9 := Lib.hid (And.intro b6 m6)
  have HG9 := Lib.hid hg9
  clear b6 m6 hg9
  go_upto_block 4 with fail
  go_cut [22] from 118 to 146 (fun _ wx => Hid (Below g9 w9 wx ∧ PX wx g9 (sb nQ) (sx nQ) (sy nQ)))
  case first =>
    go_wp2_with fail
    go_loopw [22] (fun i wr => ∃ k : Nat, k ≤ nQ ∧ i = .int .i64 (k : Int) ∧ Hid (Below g9 w9 wr ∧ PX wr g9 (sb k) (sx k) (sy k))) (fun i _ => nQ - (match i with | .int _ i => i.toNat | _ => 0))
    case atStart => exact ⟨0, Nat.zero_le _, rfl, H9⟩
    case round =>
      clear H9
      obtain ⟨k, hk, rfl, hR⟩ := hrel
      by_cases hlt : k < nQ
      · have hkQ : k < Q.length := by rw [HQ.out.2.2]; exact hlt
        obtain ⟨bn, on, hpn, d0⟩ := HNS.out k _ (wl_get (Q.map qg) k (by rw [List.length_map]; exact hkQ))
        subst hpn
        replace d0 := (HB9.out.cell (p := ⟨bn, on + k, none⟩) (World.block_lt_of_cell? _ _ d0)).trans d0
        replace d0 := (hR.out.1.cell (p := ⟨bn, on + k, none⟩) (by rw [← HG9.out]; exact World.block_lt_of_cell? _ _ d0)).trans d0
        obtain ⟨p', c', e, hg⟩ := HLG9.out.form
        rw [List.length_map, HQ.out.2.2] at e
        injection e with e1 e2 e3
        subst e1 e3
        obtain ⟨bg, hpg, k0, k1, k2⟩ := hg k (by rw [List.length_map]; exact hkQ)
        subst hpg
        rw [List.getElem_map] at k0 k1 k2
        have hgd : Q.getD k 0 = Q[k]'hkQ := by rw [List.getD_eq_getElem?_getD, List.getElem?_eq_getElem hkQ]; rfl
        have M1 := MK.out k hkQ
        have A1 := AD.out k hkQ
        unfold qx qy at M1 A1
        rw [hgd] at M1 A1
        generalize Q[k]'hkQ = q at *
        unfold qg at k0 k1 k2
        dsimp only at k0 k1 k2
        generalize NB q.num.natAbs = vx at *
        generalize NB q.den = vy at *
        have c0 := (hR.out.1.cell (p := ⟨bg, k * 3, none⟩) (by rw [← HG9.out]; exact World.block_lt_of_cell? _ _ k0)).trans k0
        have c1 := (hR.out.1.cell (p := ⟨bg, k * 3 + 1, none⟩) (by rw [← HG9.out]; exact World.block_lt_of_cell? _ _ k1)).trans k1
        have c2 := (hR.out.1.cell (p := ⟨bg, k * 3 + 2, none⟩) (by rw [← HG9.out]; exact World.block_lt_of_cell? _ _ k2)).trans k2
        obtain ⟨Wk, hWk⟩ : ∃ x, wh (Q.map qg) k = x := ⟨_, rfl⟩
        rw [hWk] at d0 M1
        replace M1 := Lib.hid M1
        replace A1 := Lib.hid A1
        clear k0 k1 k2 hg hgd hWk
        go_wp2_with fail
        clear d0
        refine (M1.out _ (K9.out.t.below (by rw [HG9.out]; exact hR.out.1))).mono ?_
        rintro e w10 ⟨rfl, b10⟩
        have hg9s : g9 ≤ wr.heap.size := Nat.le_of_lt (Array.getElem?_eq_some_iff.1 hR.out.2).1
        have hR10 := Lib.hid (And.intro (hR.out.1.trans (b10.mono hg9s)) (hR.out.2.next b10))
        replace c0 := (b10.cell (p := ⟨bg, k * 3, none⟩) (World.block_lt_of_cell? _ _ c0)).trans c0
        replace c1 := (b10.cell (p := ⟨bg, k * 3 + 1, none⟩) (World.block_lt_of_cell? _ _ c1)).trans c1
        replace c2 := (b10.cell (p := ⟨bg, k * 3 + 2, none⟩) (World.block_lt_of_cell? _ _ c2)).trans c2
        clear b10 hR M1 hg9s
        have m7 : (w10.alloc (.cells #[.bool false, .string ⟨#[]⟩, .string ⟨#[]⟩] 26)).heap[w10.heap.size]? = some (.cells #[.bool false, .string ⟨#[]⟩, .string ⟨#[]⟩] 26 (0, 0)) := heap_alloc_new _ _
        have b6 : Below w10.heap.size w10 ((w10.alloc (.cells #[.bool false, .string ⟨#[]⟩, .string ⟨#[]⟩] 26)).setRow w10.heap.size #[.bool false, .string vx, .string vy]) := Below.setRow' ((Below.refl w10.heap.size w10).alloc (Nat.le_refl _) _) (Nat.le_refl _) _
        have m6 : PX ((w10.alloc (.cells #[.bool false, .string ⟨#[]⟩, .string ⟨#[]⟩] 26)).setRow w10.heap.size #[.bool false, .string vx, .string vy]) w10.heap.size false vx vy := setRow_heap _ _ _ _ _ _ m7
        go_upto_region 28 with (refine wpList_store_row rfl 26 (.tmp 23) (.tmp 131) rfl w10.heap.size #[.bool false, .string vx, .string vy] rfl rfl 26 _ m7 (infoW3 _ _ _).out (w3_size _ _ _ _ _ _) (w3_one _ _ _) ?_)
        clear m7
        try change Code.wp _ _ _ _ ((w10.alloc (.cells #[.bool false, .string ⟨#[]⟩, .string ⟨#[]⟩] 26)).setRow w10.heap.size #[.bool false, .string vx, .string vy])
        generalize (w10.alloc (.cells #[.bool false, .string ⟨#[]⟩, .string ⟨#[]⟩] 26)).setRow w10.heap.size #[.bool false, .string vx, .string vy] = v10 at *
        have hg9s : g9 ≤ w10.heap.size := Nat.le_of_lt (Array.getElem?_eq_some_iff.1 hR10.out.2).1
        have hRv := Lib.hid (And.intro (hR10.out.1.trans (b6.mono hg9s)) (hR10.out.2.next b6))
        replace c0 := (b6.cell (p := ⟨bg, k * 3, none⟩) (World.block_lt_of_cell? _ _ c0)).trans c0
        replace c1 := (b6.cell (p := ⟨bg, k * 3 + 1, none⟩) (World.block_lt_of_cell? _ _ c1)).trans c1
        replace c2 := (b6.cell (p := ⟨bg, k * 3 + 2, none⟩) (World.block_lt_of_cell? _ _ c2)).trans c2
        generalize w10.heap.size = g10 at *
        clear b6 hR10 hg9s
        have y0 : v10.cell? ⟨g10, 0, none⟩ = some (.bool false) := cell_of_row _ g10 0 _ _ _ m6
        have y1 : v10.cell? ⟨g10, 1, none⟩ = some (.string vx) := cell_of_row _ g10 1 _ _ _ m6
        have y2 : v10.cell? ⟨g10, 2, none⟩ = some (.string vy) := cell_of_row _ g10 2 _ _ _ m6
        go_region
        have hRd := Lib.hid (And.intro hRv.out.1.drew (hRv.out.2.next (Below.refl _ _).drew))
        have m6d : PX v10.drew g10 false vx vy := m6.next (Below.refl _ _).drew
        clear y0 y1 y2 c0 c1 c2 m6 hRv
        generalize v10.drew = v11 at *
        have hrr := hRd.out.2
        unfold PX at hrr m6d
        go_wp2_with (first | (refine wpList_load_row rfl 26 (.tmp 21) rfl g9 rfl 26 #[.bool (sb k), .string (sx k), .string (sy k)] (0, 0) _ hrr Tryz.underlying26 rfl (infoW3 _ _ _).out ?_) | (refine wpList_load_row rfl 26 (.tmp 23) rfl g10 rfl 26 #[.bool false, .string vx, .string vy] (0, 0) _ m6d Tryz.underlying26 rfl (infoW3 _ _ _).out ?_))
        refine (A1.out _ (K9.out.t.below (by rw [HG9.out]; exact hRd.out.1))).mono ?_
        rintro e w11 ⟨rfl, b11⟩
        have hg9s : g9 ≤ v11.heap.size := Nat.le_of_lt (Array.getElem?_eq_some_iff.1 hrr).1
        have hR11 := Lib.hid (And.intro (hRd.out.1.trans (b11.mono hg9s)) (hRd.out.2.next b11))
        clear b11 hrr m6d hRd A1 hg9s
        have hrr := hR11.out.2
        unfold PX at hrr
        have K12 := Lib.hid (show Below g9 w9 (w11.setRow g9 #[.bool (sb (k+1)), .string (sx (k+1)), .string (sy (k+1))]) ∧ PX (w11.setRow g9 #[.bool (sb (k+1)), .string (sx (k+1)), .string (sy (k+1))]) g9 (sb (k+1)) (sx (k+1)) (sy (k+1)) from ⟨Below.setRow' hR11.out.1 (Nat.le_refl _) _, setRow_heap _ _ _ _ _ _ hrr⟩)
        go_wp2_with (refine wpList_store_row rfl 26 (.tmp 21) (.tmp 145) rfl g9 #[.bool (sb (k+1)), .string (sx (k+1)), .string (sy (k+1))] rfl rfl 26 _ hrr (infoW3 _ _ _).out (w3_size _ _ _ _ _ _) (w3_one _ _ _) ?_)
        exact ⟨⟨k + 1, by omega, by go_num, K12⟩, by simp; omega⟩
      · obtain rfl : k = nQ := by omega
        go_wp2_with fail
        go_meet
        exact hR
  case rest =>
  have hWB : Below wc.heap.size wc wc.drew := (Below.refl _ _).drew
  have hg9s : g9 ≤ wc.heap.size := Nat.le_of_lt (Array.getElem?_eq_some_iff.1 hcut.out.2).1
  have h9d := hcut.out.1.trans (hWB.mono hg9s)
  rw [← HG9.out] at h9d
  have hPX := hcut.out.2.next hWB
  have hTT := K9.out.t.below h9d
  have hLGd := HLG9.out.next h9d
  have hbd := K9.out.b.trans (h9d.mono K9.out.b.size)
  go_upto_region 31 with fail
  refine wp_region_held_drew (S := Below wc.drew.heap.size wc.drew) (by kernel_rfl) (Below.refl _ _) (fun hS => ?_)
  clear hcut hWB hg9s h9d H9 HLG9 K9 HNS MK AD
  generalize wc.drew = wd at *
  obtain ⟨BB, hBB⟩ : ∃ B, wd.heap.size = B := ⟨_, rfl⟩
  rw [hBB] at hS ⊢
  have HBB := Lib.hid hBB
  have LWB := Lib.hid hbd
  have HPX := Lib.hid hPX
  have HTT := Lib.hid hTT
  have HLG := Lib.hid hLGd
  clear hBB hbd hPX hTT hLGd
  refine wpAnyH_take (i := 0) (v := ?vz0) rfl (by kernel_rfl) (by kernel_rfl) (by kernel_rfl) (fun _ _ _ h => h) (Or.inl ⟨by rfl, ?yz0⟩) hS ?rz0
  case yz0 => (intro w hS; go_simp; try with_reducible rfl)
  go_simp
  refine wpAnyH_take (i := 1) (v := ?vz1) rfl (by kernel_rfl) (by kernel_rfl) (by kernel_rfl) (fun _ _ _ h => h) (Or.inl ⟨by rfl, ?yz1⟩) hS ?rz1
  case yz1 => (intro w hS; go_simp; try with_reducible rfl)
  go_simp
  refine wpAnyH_take (i := 2) (v := .agg (#[.bool (sb nQ), .string (sx nQ), .string (sy nQ)])) rfl (by kernel_rfl) (by kernel_rfl) (by kernel_rfl) (fun _ _ _ h => h) (Or.inl ⟨by rfl, ?yz2⟩) hS ?rz2
  case yz2 => exact fun w' hS => exec_load_row w' 26 (.tmp 21) rfl g9 (by first | rfl | (simp [Act.eval])) 26 (#[.bool (sb nQ), .string (sx nQ), .string (sy nQ)]) (0, 0) _ ((hS.block _ (by rw [← HBB.out]; exact (Array.getElem?_eq_some_iff.1 HPX.out).1)).trans HPX.out) Tryz.underlying26 rfl (infoW3 _ _ _).out
  refine wpAnyH_take (i := 3) (v := ?vz3) rfl (by kernel_rfl) (by kernel_rfl) (by kernel_rfl) (fun _ _ _ h => h) (Or.inl ⟨by rfl, ?yz3⟩) hS ?rz3
  case yz3 => (intro w hS; go_simp; try with_reducible rfl)
  go_simp
  refine wpAnyH_ready (rs := [4]) (by kernel_rfl) (by simp) ?_
  refine (AllReadyH.cons (o := { dst := some 150, op := .call { callee := .value (.func 30), args := #[.tmp 149], argTypes := #[38] }, type := 26, pos := "law.go:126", after := #[⟨3, .data⟩, ⟨1, .chain⟩, ⟨1, .guard⟩], guard := some (1, true) }) rfl (fun K hK => ?_) AllReadyH.nil)
  go_simp
  go_at_call 30
  refine (SU.out _ _ (HLG.out.next (hS.mono (Nat.le_of_eq HBB.out))) (HTT.out.below (hS.mono (Nat.le_of_eq HBB.out)))).mono ?_
  rintro e w' ⟨rfl, b⟩
  have hS2 := hS.trans (b.mono (Nat.le_trans (Nat.le_of_eq HBB.out.symm) hS.size))
  clear b hS
  try go_simp
  refine hK.out _ _ hS2 (fun hS => ?_)
  clear hK K hS2
  refine wpAnyH_take (i := 5) (v := ?vz5) rfl (by kernel_rfl) (by kernel_rfl) (by kernel_rfl) (fun _ _ _ h => h) (Or.inl ⟨by rfl, ?yz5⟩) hS ?rz5
  case yz5 => (intro w hS; go_simp; try with_reducible rfl)
  go_simp
  refine wpAnyH_take (i := 6) (v := ?vz6) rfl (by kernel_rfl) (by kernel_rfl) (by kernel_rfl) (fun _ _ _ h => h) (Or.inl ⟨by rfl, ?yz6⟩) hS ?rz6
  case yz6 => (intro w hS; go_simp; try with_reducible rfl)
  go_simp
  refine wpAnyH_take (i := 7) (v := ?vz7) rfl (by kernel_rfl) (by kernel_rfl) (by kernel_rfl) (fun _ _ _ h => h) (Or.inl ⟨by rfl, ?yz7⟩) hS ?rz7
  case yz7 => (intro w hS; go_simp; try with_reducible rfl)
  refine wpAnyH_done (by kernel_rfl) ?_ _
  go_wp2
  go_ret
  exact ⟨rfl, LWB.out.trans (hS.mono (Nat.le_trans LWB.out.size (Nat.le_of_eq HBB.out)))⟩
end Go.Proofs.YteccbedmpjeamaaGreatDoor
