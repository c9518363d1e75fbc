/-
  The walk of the law DigestBits.
-/
import Derived.Test.YtmanflkiffgphaaDoorLawJoin
import Derived.Deep.RegionLaw
import Derived.Deep.RegionWith
namespace Go.Proofs.YtmanflkiffgphaaDoor
open Go.RowKit SH
theorem OwnT.br {w : World} {base : Nat} {v : Value} {bs : List UInt8} (h : OwnT w base v bs) : ∃ g cap, v = .slice (some ⟨g, 0, none⟩) bs.length cap ∧ base ≤ g ∧ g < w.heap.size ∧ BR w g bs.length ∧ bs.length ≤ cap := by
  obtain ⟨g, cap, cur, fz, rfl, hb, hg, hfz, hn, hm, hcs, ht⟩ := h
  refine ⟨g, cap, rfl, hb, (Array.getElem?_eq_some_iff.1 hg).1, fun j hj => ⟨⟨bs[j], ?_⟩, ?_⟩, hn⟩
  · rw [cell_of_row w g j cur t8 fz hg]
    have : (cur.toList.take bs.length)[j]? = some (.int .u8 (bs[j].toNat : Int)) := by rw [ht]; simp [Lib.byteCells, hj]
    rw [List.getElem?_take, if_pos hj] at this
    simpa using this
  · obtain ⟨lo, hi'⟩ := fz
    simp only [World.frozen?, hg, Bool.and_eq_false_iff, decide_eq_false_iff_not]
    rcases hfz with h | h
    · simp only [Prod.mk.injEq] at h; right; omega
    · left; simp only at h; omega
theorem bytes_stay (W : World) (p n cap : Nat) (h : BR W p n) (hp : p < W.heap.size) :
    ∃ S2 : ByteArray, S2.size = n ∧ ∀ W', Below W.heap.size W W' → (convert 36 9 (.slice (some ⟨p, 0, none⟩) n cap)).run Tryd.prog W' = .ok (.string S2) W' := by
  have hc2 : ∀ j, ∃ b : UInt8, j < n → W.cell? ⟨p, j, none⟩ = some (.int .u8 (b.toNat : Nat)) := fun j => by
    by_cases hj : j < n
    · obtain ⟨b, hb⟩ := (h j hj).1; exact ⟨b, fun _ => hb⟩
    · exact ⟨0, fun h2 => absurd h2 hj⟩
  obtain ⟨f, hf⟩ := Classical.axiomOfChoice hc2
  refine ⟨⟨((List.range n).map f).toArray⟩, by show ((List.range n).map f).toArray.size = n; simp, fun W' hB => ?_⟩
  have h := run_convert_bytes_back (P := Tryd.prog) W' 36 9 5 ⟨p, 0, none⟩ cap ((List.range n).map f) Tryd.underlying36 Tryd.underlying5 Tryd.underlying9 (fun j hj => by
    have hj2 : j < n := by simpa using hj
    have hadd : (⟨p, 0, none⟩ : Addr).add j = ⟨p, j, none⟩ := by unfold Addr.add; split <;> simp_all
    rw [hadd, hB.cell (p := ⟨p, j, none⟩) hp, hf j hj2]
    simp)
  rwa [show ((List.range n).map f).length = n by simp] at h
theorem pow_byte (d p2 : Nat) (h : 2 ^ d = p2) (hp : p2 < 256) : ((2 : Int) ^ d) % 256 = (p2 : Int) := by
  have e : ((2 : Int) ^ d) = ((2 ^ d : Nat) : Int) := by simp
  rw [e, h]
  exact Int.emod_eq_of_lt (by omega) (by omega)
theorem xor_byte (c d : Nat) (hc : c < 256) (hd : d < 256) : ∃ x : UInt8, bits .xor .u8 (c : Int) (d : Int) = ((x.toNat : Nat) : Int) := by
  rw [u8_xor_nat c d hc hd]
  have h : c ^^^ d < 256 := Nat.xor_lt_two_pow (n := 8) hc hd
  refine ⟨UInt8.ofNat (c ^^^ d), ?_⟩
  rw [show (UInt8.ofNat (c ^^^ d)).toNat = (c ^^^ d) % 256 from rfl, Nat.mod_eq_of_lt h]
theorem step_load_row {P : Program} {ops : Array Oper} {o : Oper} {a : Act} {w : World} {K : Act → World → Prop} {Q : Exit → Act → World → Prop} {E : Prop} (hw : Region.wanted o (yielded ops a.tmps) = true) (ty : TypeId) (x : Operand) (ho : o.op = .load ty x)
    (g : Nat) (hx : a.eval x = .pointer (some ⟨g, 0, none⟩)) (t : TypeId) (cs : Array Value) (fr : Nat × Nat) (d : TypeDesc) (hg : w.heap[g]? = some (.cells cs t fr))
    (hu : P.underlying ty = some d) (hd : (match d with | .struct _ | .array _ _ => true | _ => false) = true) (hi : (P.info? ty).map (·.size) = some cs.size)
    (h : K (a.put o.dst (.agg cs)) w) : if Region.wanted o (yielded ops a.tmps) = true then Oper.wp P o a w K Q else E := by
  rw [if_pos hw]
  exact wp_load_row ty x ho g hx t cs fr d hg hu hd hi h
set_option maxRecDepth 100000 in
set_option maxHeartbeats 4000000 in
theorem bits_walk (w : World) (s : ByteArray) (n : Int) (hn : -9223372036854775808 ≤ n ∧ n ≤ 9223372036854775807) (hT : TB w) :
    Calls Tryd.prog 9 #[.string s, .int .i64 n] w fun e w' => e = .returned (.bool true) ∧ Below w.heap.size w w' := by
  obtain ⟨m, hm⟩ : ∃ m, min s.size 200 = m := ⟨_, rfl⟩
  have m1 : min (s.size : Int) 200 = (m : Int) := by omega
  have m2 : (m : Int) ≤ (s.size : Int) := by omega
  have m3 : (0 : Int) ≤ (m : Int) := by omega
  have m4 : m ≤ s.size := by omega
  obtain ⟨x, hx⟩ : ∃ x, s.extract 0 m = x := ⟨_, rfl⟩
  have hxs : x.size ≤ 200 := by rw [← hx, (ext_take s m m4).2]; omega
  have hbig : (9223372036854775807 < x.size + 3) = False := eq_false (by omega)
  obtain ⟨y, hy⟩ : ∃ y, x ++ ByteArray.mk #[101, 110, 100] = y := ⟨_, rfl⟩
  have hys : y.size = x.size + 3 := by rw [← hy, ByteArray.size_append]; rfl
  obtain ⟨N, hN⟩ : ∃ N, y.size = N := ⟨_, rfl⟩
  have hN1 : 3 ≤ N := by omega
  have hN2 : N ≤ 203 := by omega
  have k1 := fun W => mod_any W n (8 * N) (wrap64 (8 * (N : Int))) (by unfold wrap64; omega) (by omega) (by omega) hn
  have l1 := (modv_spec n (8 * N) (by omega)).2
  obtain ⟨k, e1⟩ : ∃ r, modv n (8 * N) = r := ⟨_, rfl⟩
  rw [e1] at k1 l1
  clear e1
  have HK := Lib.hid (And.intro k1 (And.intro hT (And.intro hN (And.intro hN1 (And.intro hN2 l1))))); clear k1 hT hn hxs hys hN hN1 hN2 l1
  go_enter Tryd.func9, Tryd.ntmps9
  go_wp2_with fail
  go_must (go_fit (sane _ HK.out.2.1))
  rintro e w1 ⟨rfl, b1⟩
  have t1 := Lib.hid (HK.out.2.1.below b1)
  have hB := Lib.hid b1; clear b1
  have hB1 := hB.out.size
  obtain ⟨v, w2, hcv, hown, b2⟩ := conv_bytes w1 y (by rw [HK.out.2.2.1]; unfold maxLen; have := HK.out.2.2.2.2.1; omega)
  obtain ⟨g, cap, rfl, hg1, hg2, hbr, hcap⟩ := hown.br
  rw [size_toList, HK.out.2.2.1] at hcv hbr hcap
  have t2 := Lib.hid (t1.out.below b2)
  replace hB := Lib.hid (hB.out.trans (b2.mono hB.out.size))
  have HG := Lib.hid (And.intro hbr (And.intro hcap (And.intro (show w.heap.size ≤ g from Nat.le_trans hB1 hg1) hg2))); clear hbr hcap b2 hown hg1 hg2 hB1
  go_wp2_with fail
  go_must (go_fit (HK.out.1 _))
  rintro e w3 ⟨rfl, rfl⟩
  obtain ⟨q, hq⟩ : ∃ q, k / 8 = q := ⟨_, rfl⟩
  obtain ⟨d, hd⟩ : ∃ d, k % 8 = d := ⟨_, rfl⟩
  have hqN : q < N := by have := HK.out.2.2.2.2.2; omega
  have hd8 : d < 8 := by omega
  have y1 : (k : Int).tdiv 8 = (q : Int) := by rw [Int.tdiv_eq_ediv_of_nonneg (by omega)]; omega
  have y3 : (k : Int).tmod 8 = (d : Int) := by rw [Int.tmod_eq_emod_of_nonneg (by omega)]; omega
  have z1 : (q : Int) < (N : Int) := by omega
  have hqs : q < 1000 := by have := HK.out.2.2.2.2.1; omega
  have v2 : IntKind.i64.wrap (q : Int) = (q : Int) := IntWalk.i64_in _ ⟨by omega, by omega⟩
  obtain ⟨⟨c, hc⟩, hf⟩ := HG.out.1 q hqN
  obtain ⟨p2, hp2⟩ : ∃ p, 2 ^ d = p := ⟨_, rfl⟩
  have hp256 : p2 < 256 := by
    rw [← hp2]
    exact Nat.lt_of_lt_of_le (Nat.pow_lt_pow_right (by omega) hd8) (by decide)
  have y5 : ((2 : Int) ^ d) % 256 = (p2 : Int) := pow_byte d p2 hp2 hp256
  have y6 : IntKind.u8.wrap ((2 : Int) ^ d) = (p2 : Int) := by rw [IntKind.wrap_u8']; exact y5
  have hmin : min d 8 = d := by omega
  obtain ⟨b, hb⟩ := xor_byte c.toNat p2 c.toNat_lt hp256
  have hbr2 : BR (w3.drew.setCell ⟨g, q, none⟩ (.int .u8 (b.toNat : Nat))) g N := BR.set (w := w3.drew) HG.out.1 q b hqN
  have hb4 : Below w.heap.size w (w3.drew.setCell ⟨g, q, none⟩ (.int .u8 (b.toNat : Nat))) := (hB.out.drew).setCell (p := ⟨g, q, none⟩) HG.out.2.2.1 _
  have hg4 : g < (w3.drew.setCell ⟨g, q, none⟩ (.int .u8 (b.toNat : Nat))).heap.size := by have := HG.out.2.2.2; simp; exact this
  have hT4 : TB w3.drew := t2.out.drew
  have hT5 : TB (w3.drew.setCell ⟨g, q, none⟩ (.int .u8 (b.toNat : Nat))) := HK.out.2.1.below hb4
  have HG2 := Lib.hid (And.intro hbr2 (And.intro hb4 (And.intro hg4 hT5))); clear hbr2 hb4 hg4 hT4 hT5 hqN hd hq hp2 hd8 hqs hp256 HG hB t2 t1
  have hc' : w3.drew.cell? ⟨g, q, none⟩ = some (.int .u8 (c.toNat : Nat)) := hc
  have hf' : w3.drew.frozen? ⟨g, q, none⟩ = false := hf
  go_wp2
  go_still_tail 12, (by kernel_rfl)
  change wpList _ _ _ _ _ w3.drew
  clear hc hf y1 y3
  go_upto_region 5 with fail
  clear y5 y6 v2 hmin hb hc' hf'
  change Code.wp _ _ _ _ (w3.drew.setCell ⟨g, q, none⟩ (.int .u8 (b.toNat : Nat)))
  generalize w3.drew.setCell ⟨g, q, none⟩ (.int .u8 (b.toNat : Nat)) = W4 at *
  obtain ⟨S2, hS2, hcv2⟩ := bytes_stay _ g N cap HG2.out.1 HG2.out.2.2.1
  have hcv3 := hcv2 _ (Below.refl _ _)
  have HC := Lib.hid hcv2; clear hcv2
  obtain ⟨l, hl⟩ : ∃ l, sha S2.data.toList = l := ⟨_, rfl⟩
  have hll : l.length = 32 := by rw [← hl]; exact sha_length _
  have heq := fun W => eql_same W l hll
  have HL := Lib.hid (And.intro hl (And.intro hll (show S2.size ≤ 1000000000 by have := HK.out.2.2.2.2.1; omega))); clear hl hll hS2
  go_wp2_with fail
  go_must (go_fit (sumN _ S2 l HL.out.1 HL.out.2.2 HG2.out.2.2.2))
  rintro e w5 ⟨rfl, b5⟩
  have hn32 : HM (w5.alloc (.cells (hcells (List.replicate 32 0)) 24)) w5.heap.size (List.replicate 32 0) := heap_alloc_new _ _
  have hsz : Hid ((Tryd.prog.info? 24).map (·.size) = some (hcells l).size) := Lib.hid (by rw [hcells_size, HL.out.2.1]; exact info8T.out)
  have hsz2 : Hid ((hcells (List.replicate 32 0)).size = (hcells l).size) := Lib.hid (by rw [hcells_size, hcells_size, HL.out.2.1]; rfl)
  have hb6 : Below W4.heap.size W4 ((w5.alloc (.cells (hcells (List.replicate 32 0)) 24)).setRow w5.heap.size (hcells l)) := Below.setRow' (b5.alloc b5.size _) b5.size _
  have hm6 : HM ((w5.alloc (.cells (hcells (List.replicate 32 0)) 24)).setRow w5.heap.size (hcells l)) w5.heap.size l := setRow_heap _ _ _ _ _ _ hn32
  have H6 := Lib.hid (And.intro hb6 hm6); clear hb6 hm6 b5 hcv3
  go_upto_region 6 with (refine wpList_store_row rfl 24 (.tmp 8) (.tmp 37) rfl w5.heap.size (hcells l) rfl rfl 24 _ hn32 hsz.out hsz2.out (hcells_one _) ?_)
  change Code.wp _ _ _ _ ((w5.alloc (.cells (hcells (List.replicate 32 0)) 24)).setRow w5.heap.size (hcells l))
  clear hn32 hsz2
  generalize (w5.alloc (.cells (hcells (List.replicate 32 0)) 24)).setRow w5.heap.size (hcells l) = W6 at *
  generalize w5.heap.size = p at *
  clear w5
  have hcv6 := HC.out W6.drew H6.out.1.drew
  have hm6 : HM W6.drew p l := H6.out.2
  have hTp : p < W6.drew.heap.size := hm6.lt
  refine wp_region_any (by kernel_rfl) ?_
  change wpAny _ _ _ _ _ _ _ (World.drew _)
  refine wpAny_take (i := 0) (v := ?v0) rfl (by kernel_rfl) (by kernel_rfl) (by kernel_rfl) (fun _ _ _ h => h) (Or.inl ⟨by rfl, ?y0⟩) ?r0
  case y0 => (intro w; go_simp; try with_reducible rfl)
  refine wpAny_take (i := 1) (v := ?v1) rfl (by kernel_rfl) (by kernel_rfl) (by kernel_rfl) (fun _ _ _ h => h) (Or.inl ⟨by rfl, ?y1⟩) ?r1
  case y1 => (intro w; go_simp; try with_reducible rfl)
  refine wpAny_take (i := 3) (v := ?v3) rfl (by kernel_rfl) (by kernel_rfl) (by kernel_rfl) (fun _ _ _ h => h) (Or.inl ⟨by rfl, ?y3⟩) ?r3
  case y3 => (intro w; go_simp; try with_reducible rfl)
  refine wpAny_ready (rs := [2, 4]) (by kernel_rfl) (by simp) ?_
  refine AllReady.cons rfl (fun K hK => ?_) (AllReady.cons rfl (fun K hK => ?_) AllReady.nil)
  · refine step_load_row (by first | rfl | (simp [Region.wanted, yielded])) 24 (.tmp 8) rfl p (by first | rfl | (simp [Act.eval])) 24 (hcells l) (0, 0) _ hm6 Tryd.underlying24 rfl hsz.out ?_
    refine hK _ _ ?_
    clear hK K
    refine wpAny_ready (rs := [4]) (by kernel_rfl) (by simp) ?_
    refine AllReady.cons rfl (fun K hK => ?_) AllReady.nil
    go_simp
    refine hK _ _ ?_
    clear hK K
    refine wpAny_ready (rs := [5]) (by kernel_rfl) (by simp) ?_
    refine AllReady.cons rfl (fun K hK => ?_) AllReady.nil
    go_simp
    go_at_call 15
    refine (sumR _ S2 l HL.out.1 HL.out.2.2).mono ?_
    rintro e w7 ⟨rfl, b7⟩
    have hm7 : HM w7 p l := hm6.below b7 hTp
    try go_simp
    refine hK _ _ ?_
    clear hK K
    refine wpAny_ready (rs := [6]) (by kernel_rfl) (by simp) ?_
    refine AllReady.cons rfl (fun K hK => ?_) AllReady.nil
    go_simp
    refine hK _ _ ?_
    clear hK K
    refine wpAny_ready (rs := [7]) (by kernel_rfl) (by simp) ?_
    refine AllReady.cons rfl (fun K hK => ?_) AllReady.nil
    go_simp
    refine hK _ _ ?_
    clear hK K
    refine wpAny_ready (rs := [8]) (by kernel_rfl) (by simp) ?_
    refine AllReady.cons rfl (fun K hK => ?_) AllReady.nil
    go_simp
    refine hK _ _ ?_
    clear hK K
    refine wpAny_done (by kernel_rfl) ?_ _
    go_wp2
    go_ret
    exact ⟨rfl, (HG2.out.2.1.trans ((H6.out.1.drew).trans (b7.mono H6.out.1.size) |>.mono HG2.out.2.1.size))⟩
  · go_simp
    refine hK _ _ ?_
    clear hK K
    refine wpAny_ready (rs := [2, 5]) (by kernel_rfl) (by simp) ?_
    refine AllReady.cons rfl (fun K hK => ?_) (AllReady.cons rfl (fun K hK => ?_) AllReady.nil)
    · refine step_load_row (by first | rfl | (simp [Region.wanted, yielded])) 24 (.tmp 8) rfl p (by first | rfl | (simp [Act.eval])) 24 (hcells l) (0, 0) _ hm6 Tryd.underlying24 rfl hsz.out ?_
      refine hK _ _ ?_
      clear hK K
      refine wpAny_ready (rs := [5]) (by kernel_rfl) (by simp) ?_
      refine AllReady.cons rfl (fun K hK => ?_) AllReady.nil
      go_simp
      go_at_call 15
      refine (sumR _ S2 l HL.out.1 HL.out.2.2).mono ?_
      rintro e w7 ⟨rfl, b7⟩
      have hm7 : HM w7 p l := hm6.below b7 hTp
      try go_simp
      refine hK _ _ ?_
      clear hK K
      refine wpAny_ready (rs := [6]) (by kernel_rfl) (by simp) ?_
      refine AllReady.cons rfl (fun K hK => ?_) AllReady.nil
      go_simp
      refine hK _ _ ?_
      clear hK K
      refine wpAny_ready (rs := [7]) (by kernel_rfl) (by simp) ?_
      refine AllReady.cons rfl (fun K hK => ?_) AllReady.nil
      go_simp
      refine hK _ _ ?_
      clear hK K
      refine wpAny_ready (rs := [8]) (by kernel_rfl) (by simp) ?_
      refine AllReady.cons rfl (fun K hK => ?_) AllReady.nil
      go_simp
      refine hK _ _ ?_
      clear hK K
      refine wpAny_done (by kernel_rfl) ?_ _
      go_wp2
      go_ret
      exact ⟨rfl, (HG2.out.2.1.trans ((H6.out.1.drew).trans (b7.mono H6.out.1.size) |>.mono HG2.out.2.1.size))⟩
    · go_simp
      go_at_call 15
      refine (sumR _ S2 l HL.out.1 HL.out.2.2).mono ?_
      rintro e w7 ⟨rfl, b7⟩
      have hm7 : HM w7 p l := hm6.below b7 hTp
      try go_simp
      refine hK _ _ ?_
      clear hK K
      refine wpAny_ready (rs := [2]) (by kernel_rfl) (by simp) ?_
      refine AllReady.cons rfl (fun K hK => ?_) AllReady.nil
      refine step_load_row (by first | rfl | (simp [Region.wanted, yielded])) 24 (.tmp 8) rfl p (by first | rfl | (simp [Act.eval])) 24 (hcells l) (0, 0) _ hm7 Tryd.underlying24 rfl hsz.out ?_
      refine hK _ _ ?_
      clear hK K
      refine wpAny_ready (rs := [6]) (by kernel_rfl) (by simp) ?_
      refine AllReady.cons rfl (fun K hK => ?_) AllReady.nil
      go_simp
      refine hK _ _ ?_
      clear hK K
      refine wpAny_ready (rs := [7]) (by kernel_rfl) (by simp) ?_
      refine AllReady.cons rfl (fun K hK => ?_) AllReady.nil
      go_simp
      refine hK _ _ ?_
      clear hK K
      refine wpAny_ready (rs := [8]) (by kernel_rfl) (by simp) ?_
      refine AllReady.cons rfl (fun K hK => ?_) AllReady.nil
      go_simp
      refine hK _ _ ?_
      clear hK K
      refine wpAny_done (by kernel_rfl) ?_ _
      go_wp2
      go_ret
      exact ⟨rfl, (HG2.out.2.1.trans ((H6.out.1.drew).trans (b7.mono H6.out.1.size) |>.mono HG2.out.2.1.size))⟩
end Go.Proofs.YtmanflkiffgphaaDoor
