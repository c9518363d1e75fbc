/-
  The walk of weight.Points.
-/
import Derived.Test.YtihplnomhfpajaaWPoints
namespace Go.Proofs.Ytihplnomhfpajaa.W8
open Go.RowKit GM G4 D7P Go.Maps
/-- numbers one after the other -/
def rng (n : Int) (m : Nat) : List Int := (List.range m).map fun (i : Nat) => n + (i : Int)
theorem rng_succ (n : Int) (m : Nat) : rng n (m+1) = rng n m ++ [n + (m : Int)] := by unfold rng; rw [List.range_succ, List.map_append]; rfl
theorem rng_len (n : Int) (m : Nat) : (rng n m).length = m := by unfold rng; simp
/-- the points of members -/
def ptl : Int → List Mb → List (List Int)
  | _, [] => []
  | n, s :: l => rng n s.2.1.toNat :: ptl (n + s.2.1) l
theorem ptl_len : ∀ (l : List Mb) (n : Int), (ptl n l).length = l.length
  | [], _ => rfl
  | s :: l, n => by show (ptl (n + s.2.1) l).length + 1 = l.length + 1; rw [ptl_len l]
theorem ptl_append : ∀ (a b : List Mb) (n : Int), ptl n (a ++ b) = ptl n a ++ ptl (n + tot a) b
  | [], b, n => by show ptl n b = ptl (n + 0) b; rw [Int.add_zero]
  | s :: a, b, n => by
    show rng n s.2.1.toNat :: ptl (n + s.2.1) (a ++ b) = rng n s.2.1.toNat :: (ptl (n + s.2.1) a ++ ptl (n + (s.2.1 + tot a)) b)
    rw [ptl_append a b, Int.add_assoc]
theorem ptl_snoc (l : List Mb) (k : Nat) (s : Mb) (h : l[k]? = some s) : ptl 1 (l.take (k+1)) = ptl 1 (l.take k) ++ [rng (1 + tot (l.take k)) s.2.1.toNat] := by
  rw [List.take_add_one, h, ptl_append]; rfl
/-- rows of different types lie apart -/
theorem rows_ne {W : World} {b1 b2 : Nat} {e1 e2 : TypeId} {s1 s2 n1 n2 : Nat} {v1 v2 : Value} {x1 x2 : List Value} (h1 : W.ownsRow b1 e1 s1 v1 n1 x1) (h2 : W.ownsRow b2 e2 s2 v2 n2 x2) (hne : e1 ≠ e2) : v1.ownBlock = none ∨ v1.ownBlock ≠ v2.ownBlock := by
  rcases h1.2 with ⟨rfl, _⟩ | ⟨g, cap, cur, rfl, _, h3, _⟩
  · exact .inl rfl
  · refine .inr fun e => ?_
    rcases h2.2 with ⟨rfl, _⟩ | ⟨g', cap', cur', rfl, _, h3', _⟩
    · cases e
    · have e : g = g' := by simpa [Value.ownBlock] using e
      subst e
      rw [h3] at h3'
      injection h3' with h4
      injection h4 with _ h5
      exact hne h5
theorem own_shape {w : World} {base : Nat} {e : TypeId} {size n : Nat} {v : Value} {xs : List Value} (h : w.ownsRow base e size v n xs) : ∃ p c, v = .slice p n c := by
  rcases h.2 with ⟨rfl, rfl⟩ | ⟨g, cap, cur, rfl, _⟩
  · exact ⟨_, _, rfl⟩
  · exact ⟨_, _, rfl⟩
/-- a slice of slices that the call owns -/
structure PS (w : World) (av : Value) (L : List (List Int)) (W : World) : Prop where
  b : Below w.heap.size w W
  o : ∃ vs : List Value, W.ownsRow w.heap.size 38 1 av L.length vs ∧ ∀ (j : Nat) (l : List Int), L[j]? = some l → ∃ v, vs[j]? = some v ∧ W.ownsRow w.heap.size 3 1 v l.length (l.map (Value.int .i64))
theorem PS.next {w W V : World} {av : Value} {L : List (List Int)} (h : PS w av L W) (k : Below W.heap.size W V) : PS w av L V := by
  obtain ⟨vs, h1, h2⟩ := h.o
  refine ⟨h.b.trans (k.mono h.b.size), vs, own_below' h1 k, fun j l hj => ?_⟩
  obtain ⟨v, h3, h4⟩ := h2 j l hj
  exact ⟨v, h3, own_below' h4 k⟩
theorem own_base' {w : World} {base base' : Nat} {e : TypeId} {size : Nat} {v : Value} {n : Nat} {xs : List Value} (h : w.ownsRow base e size v n xs) (k : base' ≤ base) : w.ownsRow base' e size v n xs := by
  refine ⟨h.1, ?_⟩
  rcases h.2 with h2 | ⟨g, cap, cur, h1, h2, h3, h4⟩
  · exact .inl h2
  · exact .inr ⟨g, cap, cur, h1, by omega, h3, h4⟩
theorem PS.app {w V w9 : World} {av pv : Value} {L : List (List Int)} {l : List Int} {vs : List Value} {g cap : Nat} (hb : Below w.heap.size w V) (h1 : V.ownsRow w.heap.size 38 1 av L.length vs)
    (h2 : ∀ (j : Nat) (l : List Int), L[j]? = some l → ∃ v, vs[j]? = some v ∧ V.ownsRow w.heap.size 3 1 v l.length (l.map (Value.int .i64))) (hp : V.ownsRow w.heap.size 3 1 pv l.length (l.map (Value.int .i64)))
    (h9 : w9.ownsRow w.heap.size 38 1 (.slice (some ⟨g, 0, none⟩) (L.length + 1) cap) (L.length + 1) (vs ++ [pv])) (hg : V.grownBy w9 av.ownBlock) :
    PS w (.slice (some ⟨g, 0, none⟩) (L.length + 1) cap) (L ++ [l]) w9 := by
  have hvl : vs.length = L.length := by have := h1.1; omega
  refine ⟨hb.grown hg hb.size (fun k hk => (h1.lt k hk).1), vs ++ [pv], by rw [List.length_append]; exact h9, fun j m hj => ?_⟩
  by_cases hlt : j < L.length
  · rw [List.getElem?_append_left hlt] at hj
    obtain ⟨v, h3, h4⟩ := h2 j m hj
    exact ⟨v, by rw [List.getElem?_append_left (by omega)]; exact h3, h4.kept hg (rows_ne h4 h1 (by decide))⟩
  · rw [List.getElem?_append_right (by omega)] at hj
    have e0 : j - L.length = 0 := by
      have := (List.getElem?_eq_some_iff.1 hj).1
      simp at this; omega
    rw [e0] at hj
    have : l = m := by simpa using hj
    subst this
    refine ⟨pv, ?_, hp.kept hg (rows_ne hp h1 (by decide))⟩
    rw [List.getElem?_append_right (by omega), show j - vs.length = 0 by omega]; rfl
/-- a slice shows these lists of numbers -/
def LLi (w : World) (v : Value) (L : List (List Int)) : Prop := ∃ (p : Option Addr) (c : Nat), v = .slice p L.length c ∧ ∀ (j : Nat) (l : List Int), L[j]? = some l → ∃ b o u, p = some ⟨b, o, none⟩ ∧ w.cell? ⟨b, o + j, none⟩ = some u ∧ SLi w u l
theorem LLi.next {w w' : World} {v : Value} {L : List (List Int)} (h : LLi w v L) (k : Below w.heap.size w w') : LLi w' v L := by
  obtain ⟨p, c, e, hc⟩ := h
  refine ⟨p, c, e, fun j l hj => ?_⟩
  obtain ⟨b, o, u, e, h1, h2⟩ := hc j l hj
  exact ⟨b, o, u, e, (k.cell (p := ⟨b, o + j, none⟩) (World.block_lt_of_cell? _ _ h1)).trans h1, h2.next k⟩
theorem PS.LLi {w W : World} {av : Value} {L : List (List Int)} (h : PS w av L W) (hr : ∀ l ∈ L, (∀ y ∈ l, i64 y) ∧ l.length ≤ 1000000000) : LLi W av L := by
  obtain ⟨vs, h1, h2⟩ := h.o
  rcases h1.2 with ⟨rfl, h0⟩ | ⟨g, cap, cur, rfl, k2, k3, k4, k5, k6, k7⟩
  · have : L = [] := List.length_eq_zero_iff.1 h0
    subst this
    exact ⟨none, 0, rfl, fun j y hj => by simp at hj⟩
  · refine ⟨_, cap, rfl, fun j l hj => ?_⟩
    obtain ⟨v, h3, h4⟩ := h2 j l hj
    have hl := hr l (List.mem_of_getElem? hj)
    refine ⟨g, 0, v, rfl, ?_, own_SLi h4 hl.1 hl.2⟩
    rw [Nat.zero_add, cell_of_row W g j _ _ _ k3, ← Array.getElem?_toList]
    rw [← k7] at h3
    have hlt := (List.getElem?_eq_some_iff.1 h3).1
    rw [List.getElem?_take_of_lt (by rw [List.length_take] at hlt; omega)] at h3
    exact h3
theorem infoL : (Try.prog.info? 38).map (fun i => (i.zero, i.size, i.bytes)) = some (some (.slice none 0 0), 1, 24) := by kernel_rfl
/-- what Points answers -/
def PQ (w : World) (l : List Mb) (e : Ending) (w' : World) : Prop :=
  Below w.heap.size w w' ∧ ((Rgt l ∧ ∃ av, e = .returned (.tuple #[av, .bool true]) ∧ PS w av (ptl 1 l) w') ∨ (¬ Rgt l ∧ e = .returned (.tuple #[.slice none 0 0, .bool false])))
theorem fair_take {l : List Mb} (h : Fair l) (k : Nat) : Fair (l.take k) :=
  ⟨fun s hs => h.1 s (List.mem_of_mem_take hs), h.2.sublist ((List.take_sublist _ _).map _)⟩
open Classical in
set_option maxRecDepth 100000 in
set_option maxHeartbeats 4000000 in
theorem Points_any (w : World) (v : Value) (l : List Mb) (hV : MbL w v l) : Calls Try.prog 7 #[v] w (PQ w l) := by
  obtain ⟨i0, hi, hz0, hz1, hz2⟩ := info_parts infoI
  obtain ⟨j0, hj, hy0, hy1, hy2⟩ := info_parts infoL
  have A := Lib.hid (areRight_any w v l hV)
  obtain ⟨⟨p, c, rfl, hc⟩, hr, hln⟩ := hV
  have HI := Lib.hid (And.intro hc hr); clear hc hr
  by_cases hR : Rgt l
  · rw [decide_eq_true hR] at A
    obtain ⟨N, hN⟩ : ∃ N, l.length = N := ⟨_, rfl⟩
    rw [hN] at A hln ⊢
    have hN13 : N ≤ 13 := by rw [← hN]; exact hR.2.1
    have HR := Lib.hid hR
    have HN := Lib.hid hN; clear hN hR
    go_enter Try.func7, Try.ntmps7
    go_wp2_with fail
    refine A.out.mono ?_
    rintro e w1 ⟨rfl, b1⟩
    have HB1 := Lib.hid b1; clear b1 A
    go_wp2_with fail
    go_loopw [4, 5, 14] (fun a n i wr => ∃ (k : Nat) (z : Int), k ≤ N ∧ n = .int .i64 z ∧ i = .int .i64 (k : Int) ∧ 1 ≤ z ∧ z ≤ 261 ∧ Hid (z = 1 + tot (l.take k) ∧ PS w a (ptl 1 (l.take k)) wr)) (fun _ _ i _ => N - (match i with | .int _ i => i.toNat | _ => 0))
    case atStart => exact ⟨0, 1, Nat.zero_le _, rfl, rfl, by omega, by omega, Lib.hid ⟨rfl, HB1.out, [], World.ownsRow_nil _ _ _ _, fun j l hj => by simp [ptl] at hj⟩⟩
    case round =>
      obtain ⟨k, z, hk, rfl, rfl, hzl, hzu, hP⟩ := hrel
      by_cases hlt : k < N
      · obtain ⟨⟨x, y, u⟩, hx⟩ : ∃ s, l[k]? = some s := ⟨l[k]'(by rw [HN.out]; exact hlt), List.getElem?_eq_getElem _⟩
        obtain ⟨b, o, hp, hc0, hc1, hc2⟩ := HI.out.1 k _ hx
        subst hp
        have c0 := (hP.out.2.b.cell (p := ⟨b, o + k * 3, none⟩) (World.block_lt_of_cell? _ _ hc0)).trans hc0
        have c1 := (hP.out.2.b.cell (p := ⟨b, o + k * 3 + 1, none⟩) (World.block_lt_of_cell? _ _ hc1)).trans hc1
        have c2 := (hP.out.2.b.cell (p := ⟨b, o + k * 3 + 2, none⟩) (World.block_lt_of_cell? _ _ hc2)).trans hc2
        dsimp only at c0 c1 c2
        have hix := HI.out.2 _ (List.mem_of_getElem? hx)
        have hix1 : i64 y := hix.2.1
        have hy0' := HR.out.2.2.1.1 _ (List.mem_of_getElem? hx)
        have hyr : 1 ≤ y ∧ y ≤ 20 := hy0'
        have hsum := (fair_tot _ (fair_take HR.out.2.2.1 (k+1)))
        rw [tot_snoc l k _ hx, List.length_take] at hsum
        have hzy : z + y ≤ 261 := by have := hP.out.1; have h2 : tot (l.take k) + y ≤ 20 * ((min (k+1) l.length : Nat) : Int) := hsum.2; omega
        have HX := Lib.hid (And.intro (ptl_snoc l k _ hx) (tot_snoc l k _ hx))
        clear hx hc0 hc1 hc2 hix hy0' hsum
        go_upto_region 8 with fail
        obtain ⟨V, hV⟩ : ∃ V, wr.alloc (.cells #[.int .i64 x, .int .i64 y, .int .i64 u] 27) = V := ⟨_, rfl⟩
        rw [hV]
        have bV : Below wr.heap.size wr V := by rw [← hV]; exact (Below.refl _ wr).alloc (Nat.le_refl _) _
        have d1 : V.cell? ⟨wr.heap.size, 1, none⟩ = some (.int .i64 y) := by rw [← hV, World.cell?_alloc_at _ _ _ _ rfl]; rfl
        have hPV := Lib.hid (hP.out.2.next bV)
        have HZ := Lib.hid hP.out.1
        clear hV c0 c1 c2 bV hP
        obtain ⟨m, rfl⟩ : ∃ m : Nat, y = (m : Int) := ⟨y.toNat, by omega⟩
        generalize wr.heap.size = g0 at *
        go_wp2_with fail
        go_loopw [8, 5, 20] (fun pv n i wx => ∃ (j : Nat), j ≤ m ∧ n = .int .i64 (z + (j : Int)) ∧ i = .int .i64 (j : Int) ∧ Hid (wx.ownsRow V.heap.size 3 1 pv (rng z j).length ((rng z j).map (Value.int .i64)) ∧ Below V.heap.size V wx)) (fun _ _ i _ => m - (match i with | .int _ i => i.toNat | _ => 0))
        case atStart => exact ⟨0, Nat.zero_le _, by go_num, rfl, Lib.hid ⟨World.ownsRow_nil _ _ _ _, Below.refl _ _⟩⟩
        case round =>
          obtain ⟨j, hjm, rfl, rfl, hQ⟩ := hrel
          by_cases hjlt : j < m
          · have hA := Lib.hid (And.intro (show (rng z j).length + 1 ≤ maxLen by rw [rng_len]; unfold maxLen; omega) (show ((rng z j).length + 1) * 8 ≤ 140737488355328 by rw [rng_len]; omega))
            have hN2 := Lib.hid (And.intro (rng_succ z j) (rng_len z j))
            go_wp2_with (at_builtin; refine wpList_append_lies _ rfl _ _ 38 rfl V.heap.size 3 i0 (.int .i64 0) 1 8 Try.underlying38 hi hz0 hz1 hz2 rfl (by decide) _ (rng z j).length ((rng z j).map (Value.int .i64)) rfl (hQ.out.1.alloc _) ⟨wr.heap.size, 0, none⟩ 1 1 [.int .i64 (z + (j : Int))] rfl rfl (World.news_of_block (heap_alloc_new _ _)) (by simp [Value.oneCell']) Nat.zero_lt_one hA.out.1 hA.out.2 (by rw [World.size_alloc]; exact Nat.le_succ_of_le hQ.out.2.size) _ rfl ?_; intro g9 c9 w9 hown9 hgrow9 hat9 hlt9)
            have K9 := Lib.hid (show w9.ownsRow V.heap.size 3 1 (.slice (some ⟨g9, 0, none⟩) ((rng z j).length + 1) c9) (rng z (j+1)).length ((rng z (j+1)).map (Value.int .i64)) ∧ Below V.heap.size V w9 from ⟨by rw [hN2.out.1, List.length_append, List.map_append]; exact hown9, (hQ.out.2.alloc hQ.out.2.size _).grown hgrow9 (by rw [World.size_alloc]; exact Nat.le_succ_of_le hQ.out.2.size) (fun r hr => (hQ.out.1.lt r hr).1)⟩)
            clear hown9 hgrow9 hat9 hlt9
            exact ⟨⟨j + 1, by omega, by go_num, by go_num, K9⟩, by simp; omega⟩
          · obtain rfl : j = m := by omega
            obtain ⟨vs, hav, hrows⟩ := hPV.out.o
            have hbw := hPV.out.b.trans (hQ.out.2.mono hPV.out.b.size)
            have kB := hQ.out.2
            have hpv := own_base' hQ.out.1 hPV.out.b.size
            obtain ⟨p8, c8, rfl⟩ := own_shape hpv
            have hL : (ptl 1 (l.take k)).length = k := by rw [ptl_len, List.length_take, HN.out]; omega
            have hav2 := own_below' hav kB
            have hvs : vs.length = k := by have := hav.1; omega
            rw [hL] at hav2
            have HA := Lib.hid (And.intro hav2 hpv)
            have HW := Lib.hid (And.intro hbw (And.intro hrows (And.intro kB hL)))
            have hL13 : k + 1 ≤ maxLen ∧ (k + 1) * 24 ≤ 140737488355328 ∧ w.heap.size ≤ wr.heap.size := ⟨by unfold maxLen; omega, by omega, hbw.size⟩
            have HL13 := Lib.hid hL13
            clear hav hrows hbw kB hpv hL hav2 hQ hPV hvs hL13 d1
            go_wp2_with (at_builtin; go_must (refine wpList_append_lies _ rfl _ _ 29 rfl w.heap.size 38 j0 (.slice none 0 0) 1 24 Try.underlying29 hj hy0 hy1 hy2 rfl (by decide) _ k vs rfl (HA.out.1.alloc _) ⟨wr.heap.size, 0, none⟩ 1 1 [.slice p8 (rng z j).length c8] rfl rfl (World.news_of_block (heap_alloc_new _ _)) (fun q hq => by obtain rfl := List.mem_singleton.1 hq; rfl) Nat.zero_lt_one HL13.out.1 HL13.out.2.1 (by rw [World.size_alloc]; exact Nat.le_succ_of_le HL13.out.2.2) _ rfl ?_); intro g9 c9 w9 hown9 hgrow9 hat9 hlt9)
            have kk := (Below.refl wr.heap.size wr).alloc (Nat.le_refl _) (.cells #[.slice p8 (rng z j).length c8] 38)
            have K9 := Lib.hid (show (z + (j : Int)) = 1 + tot (l.take (k+1)) ∧ PS w (.slice (some ⟨g9, 0, none⟩) (k + 1) c9) (ptl 1 (l.take (k+1))) w9 from ⟨by rw [HX.out.2, HZ.out]; omega, by
              have := PS.app (L := ptl 1 (l.take k)) (l := rng (1 + tot (l.take k)) ((j : Int)).toNat) (av := u4) (pv := .slice p8 (rng z j).length c8) (vs := vs) (g := g9) (cap := c9) (HW.out.1.alloc HW.out.1.size (.cells #[.slice p8 (rng z j).length c8] 38)) (by rw [HW.out.2.2.2]; exact HA.out.1.alloc _)
                (fun i q hq => by obtain ⟨v, h3, h4⟩ := HW.out.2.1 i q hq; exact ⟨v, h3, own_below' (own_below' h4 HW.out.2.2.1) kk⟩) (by rw [← HZ.out, Int.toNat_natCast]; exact HA.out.2.alloc _) (by rw [HW.out.2.2.2]; exact hown9) hgrow9
              rw [HX.out.1]
              rw [HW.out.2.2.2] at this
              exact this⟩)
            clear hown9 hgrow9 hat9 hlt9 kk
            try go_wp2
            exact ⟨⟨k + 1, z + (j : Int), by omega, rfl, by go_num, by omega, by omega, K9⟩, by simp; omega⟩
      · obtain rfl : k = N := by omega
        have hE : l.take k = l := List.take_of_length_le (by rw [HN.out]; exact Nat.le_refl _)
        rw [hE] at hP
        have HQ := Lib.hid (show PQ w l (.returned (.tuple #[u4, .bool true])) wr from ⟨hP.out.2.b, .inl ⟨HR.out, u4, rfl, hP.out.2⟩⟩)
        clear hP hE
        go_wp2
        go_ret2
        exact HQ.out
  · rw [decide_eq_false hR] at A
    have HR := Lib.hid hR
    clear HI hR
    generalize l.length = N at *
    go_enter Try.func7, Try.ntmps7
    go_wp2_with fail
    refine A.out.mono ?_
    rintro e w1 ⟨rfl, b1⟩
    have HB1 := Lib.hid b1; clear b1 A
    go_wp2
    go_ret2
    exact ⟨HB1.out, .inr ⟨HR.out, rfl⟩⟩
end Go.Proofs.Ytihplnomhfpajaa.W8
