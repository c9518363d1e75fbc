/-
  The walks of deal.hexadecimal and deal.Text.
-/
import Derived.Test.YtjfbpmpdcmealaaGreatDoorDTxtB
import Derived.Laws.EntriesVeiled
namespace Go.Proofs.YtjfbpmpdcmealaaGreatDoor.D7
open Go.RowKit GM SH G4 E6 D7P
set_option maxRecDepth 100000 in
set_option maxHeartbeats 4000000 in
theorem hexadecimal_any (w : World) (s : ByteArray) (hs : s.size ≤ 1000000000000) :
    Calls Tryz.prog 51 #[.string s] w fun e w' => e = .returned (.string ⟨(hex s.data.toList).toArray⟩) ∧ Below w.heap.size w w' := by
  obtain ⟨i0, hi, hz0, hz1, hz2⟩ := info_parts info8
  obtain ⟨L, hL⟩ : ∃ L, s.data.toList = L := ⟨_, rfl⟩
  have hsz0 : L.length = s.size := by rw [← hL]; rfl
  have HL := Lib.hid hL; clear hL
  go_enter Tryz.func51, Tryz.ntmps51
  go_wp2_with fail
  go_loopw [3, 7] (fun b i wr => ∃ (k : Nat) (v : Value) (kk : Int), b = v ∧ k ≤ s.size ∧ kk = (k : Nat) ∧ i = .int .i64 kk ∧ wr.ownsRow w.heap.size t8 1 v (hex (L.take k)).length (Lib.byteCells (hex (L.take k))) ∧ Hid (Below w.heap.size w wr)) (fun _ i _ => s.size - (match i with | .int _ i => i.toNat | _ => 0))
  case atStart => exact ⟨0, _, 0, rfl, by omega, rfl, rfl, World.ownsRow_nil _ _ _ _, Lib.hid (Below.refl _ _)⟩
  case round =>
    obtain ⟨k, v, kk, rfl, hk, hkk, rfl, hown, hb⟩ := hrel
    by_cases hlt : k < s.size
    · subst hkk
      have hg : (s[k]'hlt).toNat < 256 := UInt8.toNat_lt _
      obtain ⟨x, hx⟩ : ∃ x, (s[k]'hlt).toNat = x := ⟨_, rfl⟩
      rw [hx] at hg
      obtain ⟨hi4, e1⟩ : ∃ d, x / 16 = d := ⟨_, rfl⟩
      obtain ⟨lo4, e2⟩ : ∃ d, x % 16 = d := ⟨_, rfl⟩
      have y1 : (x : Int).tdiv 16 = (hi4 : Int) := by rw [Int.tdiv_eq_ediv_of_nonneg (by omega)]; omega
      have y2 : (x : Int).tmod 16 = (lo4 : Int) := by rw [Int.tmod_eq_emod_of_nonneg (by omega)]; omega
      have y3 : (x : Int) / 16 = (hi4 : Int) := by omega
      have y4 : (x : Int) % 16 = (lo4 : Int) := by omega
      have v1 : IntKind.u8.wrap (hi4 : Int) = (hi4 : Int) := by rw [IntKind.wrap_u8']; omega
      have v2 : IntKind.u8.wrap (lo4 : Int) = (lo4 : Int) := by rw [IntKind.wrap_u8']; omega
      have i1 := fun W => index_dig W hi4 (by omega)
      have i2 := fun W => index_dig W lo4 (by omega)
      obtain ⟨da, hda⟩ : ∃ d, digs.getD hi4 0 = d := ⟨_, rfl⟩
      obtain ⟨db, hdb⟩ : ∃ d, digs.getD lo4 0 = d := ⟨_, rfl⟩
      rw [hda] at i1
      rw [hdb] at i2
      have HD := Lib.hid (And.intro hda hdb); clear hda hdb
      have HX := Lib.hid (And.intro hx (And.intro e1 (And.intro e2 (And.intro hlt hg)))); clear e1 e2 hg hk
      go_wp2
      have hh : hex (L.take (k+1)) = hex (L.take k) ++ [da, db] := by
        obtain ⟨e0, e1, e2, e3, e4⟩ := HX.out
        rw [List.take_add_one, List.getElem?_eq_getElem (by omega), Option.toList_some, hex_append]
        congr 1
        have : (L[k]'(by omega)).toNat = x := by rw [← e0]; have h := HL.out; subst h; rfl
        simp only [hex, this, e1, e2, HD.out.1, HD.out.2]
      have hsz := hb.out.size
      have hlen : (hex (L.take k)).length ≤ 2000000000000 := by rw [hex_length, List.length_take]; omega
      have hnews : ∀ j u, (Lib.byteCells [da, db])[j]? = some u → ((wr.drew).alloc (.cells #[.int .u8 (da.toNat : Nat), .int .u8 (db.toNat : Nat)] t8)).cell? ((⟨wr.heap.size, 0, none⟩ : Addr).add j) = some u := by
        intro j u hj
        match j, hj with
        | 0, hj => simp [Lib.byteCells] at hj; subst hj; show ((wr.drew).alloc _).cell? ⟨wr.drew.heap.size, 0, none⟩ = _; rw [World.cell?_alloc_new]; rfl
        | 1, hj => simp [Lib.byteCells] at hj; subst hj; show ((wr.drew).alloc _).cell? ⟨wr.drew.heap.size, 1, none⟩ = _; rw [World.cell?_alloc_new]; rfl
      have hone : ∀ u ∈ Lib.byteCells [da, db], u.oneCell' = true := by intro u hu; obtain ⟨x, _, rfl⟩ := List.mem_map.1 hu; rfl
      have hlen2 : (Lib.byteCells [da, db]).length = 2 * 1 := rfl
      have hb1 : (hex (L.take k)).length + 2 ≤ maxLen := by unfold maxLen; omega
      have hb2 : ((hex (L.take k)).length + 2) * 1 ≤ 140737488355328 := by omega
      have hb3 : w.heap.size ≤ ((wr.drew).alloc (.cells #[.int .u8 (da.toNat : Nat), .int .u8 (db.toNat : Nat)] t8)).heap.size := by simp; exact Nat.le_succ_of_le hsz
      have HA := Lib.hid (And.intro hnews (And.intro hone (And.intro hlen2 (And.intro hb1 (And.intro hb2 hb3))))); clear hnews hone hlen2 hb1 hb2 hb3
      have HH := Lib.hid (And.intro hh hsz); clear hh hsz hlen
      go_region_law ((refine step_append_lies _ rfl (.tmp 10) (.tmp 21) 50 rfl w.heap.size t8 i0 (.int .u8 0) 1 1 Tryz.underlying50 hi hz0 hz1 hz2 rfl (by decide) u3 (hex (L.take k)).length (Lib.byteCells (hex (L.take k))) (by simp [Act.eval]) (hown.drew.alloc _) ⟨wr.heap.size, 0, none⟩ 2 2 (Lib.byteCells [da, db]) (by simp [Act.eval]) HA.out.2.2.1 HA.out.1 HA.out.2.1 (by omega) HA.out.2.2.2.1 HA.out.2.2.2.2.1 HA.out.2.2.2.2.2 _ rfl ?_; intro g9 c9 w9 hown9 hgrow9 hat9 hlt9))
      all_goals
        go_wp2
        refine ⟨⟨k + 1, _, _, rfl, HX.out.2.2.2.1, by simp, rfl, ?_, Lib.hid ((hb.out.drew.alloc HH.out.2 _).grown hgrow9 (by simp; have := HH.out.2; omega) (fun k hk => (hown.lt k hk).1))⟩, by have := HX.out.2.2.2.1; simp; omega⟩
        rw [HH.out.1, List.length_append, Lib.byteCells_append]
        exact hown9
    · obtain rfl : k = s.size := by omega
      obtain rfl : kk = (s.size : Nat) := hkk
      have hl : L.take s.size = L := List.take_of_length_le (by omega)
      rw [hl] at hown
      have hcv := conv_own hown
      clear hlt hk hl hown hsz0
      go_wp2
      go_ret
      exact ⟨by rw [HL.out]; rfl, hb.out⟩
/-- numbers and bytes of a text, each with a blank in front -/
def cpt (C : List Int) : List UInt8 := C.flatMap fun c => 32 :: (dcm c).data.toList
def bpt (B : List ByteArray) : List UInt8 := B.flatMap fun b => 32 :: hex b.data.toList
def wD : List UInt8 := [100, 101, 97, 108]
/-- the text of a dealing -/
def dtx (C : List Int) (pt : Int) (B : List ByteArray) : List UInt8 := wD ++ 32 :: (dcm C.length).data.toList ++ cpt C ++ 32 :: (dcm pt).data.toList ++ bpt B
theorem cpt_snoc (C : List Int) (c : Int) : cpt (C ++ [c]) = cpt C ++ 32 :: (dcm c).data.toList := by simp [cpt]
theorem bpt_snoc (B : List ByteArray) (b : ByteArray) : bpt (B ++ [b]) = bpt B ++ 32 :: hex b.data.toList := by simp [bpt]
theorem cpt_take_le (C : List Int) (k : Nat) : (cpt (C.take k)).length ≤ (cpt C).length := by
  have : cpt C = cpt (C.take k) ++ cpt (C.drop k) := by unfold cpt; rw [← List.flatMap_append, List.take_append_drop]
  rw [this, List.length_append]; omega
theorem bpt_take_le (B : List ByteArray) (k : Nat) : (bpt (B.take k)).length ≤ (bpt B).length := by
  have : bpt B = bpt (B.take k) ++ bpt (B.drop k) := by unfold bpt; rw [← List.flatMap_append, List.take_append_drop]
  rw [this, List.length_append]; omega
theorem b_size (B : List ByteArray) (k : Nat) (s : ByteArray) (h : B[k]? = some s) : s.size ≤ (bpt B).length := by
  obtain ⟨hk, rfl⟩ := List.getElem?_eq_some_iff.1 h
  have h1 := bpt_take_le B (k+1)
  have h2 := bpt_snoc (B.take k) B[k]
  rw [List.take_append_getElem hk] at h2
  rw [h2, List.length_append, List.length_cons, hex_length] at h1
  have : (B[k]).data.toList.length = (B[k]).size := rfl
  omega
theorem ti_start (w : World) (dc : Array Value) : TI w dc [] (((w.alloc (.cells dc 34)).alloc (.cells #[.pointer none, .slice none 0 0] tB)).alloc (.cells #[wsv (w.heap.size + 1)] 77)) := by
  refine ⟨(((Below.refl _ w).alloc (Nat.le_refl _) _).alloc (by simp) _).alloc (by simp; omega) _, ?_, ?_, _, _, .inl rfl, ?_, World.ownsRow_nil _ _ _ _⟩
  · rw [heap_alloc_old _ _ (by simp; omega), heap_alloc_old _ _ (by simp)]; exact heap_alloc_new _ _
  · have := heap_alloc_new ((w.alloc (.cells dc 34)).alloc (.cells #[.pointer none, .slice none 0 0] tB)) (.cells #[wsv (w.heap.size + 1)] 77)
    rwa [World.size_alloc, World.size_alloc] at this
  · rw [heap_alloc_old _ _ (by simp)]
    have := heap_alloc_new (w.alloc (.cells dc 34)) (.cells #[.pointer none, .slice none 0 0] tB)
    rwa [World.size_alloc] at this
theorem TI.c {w W : World} {a b c : Value} {T : List UInt8} (h : TI w #[a, b, c] T W) : W.cell? ⟨w.heap.size, 0, none⟩ = some a ∧ W.cell? ⟨w.heap.size, 1, none⟩ = some b ∧ W.cell? ⟨w.heap.size, 2, none⟩ = some c :=
  ⟨cell_of_row _ _ 0 _ _ _ h.d, cell_of_row _ _ 1 _ _ _ h.d, cell_of_row _ _ 2 _ _ _ h.d⟩
set_option maxRecDepth 100000 in
set_option maxHeartbeats 8000000 in
theorem Text_any (w : World) (pt : Int) (cv bv : Value) (C : List Int) (B : List ByteArray) (hV : SL w cv C) (hB : ZL w bv B) (hr : ∀ x ∈ C, i64 x) (hp : i64 pt) (hsz : (dtx C pt B).length ≤ 1000000000000) (hT : TS w) :
    Calls Tryz.prog 19 #[.agg #[cv, .int .i64 pt, bv]] w fun e w' => e = .returned (.string ⟨(dtx C pt B).toArray⟩) ∧ Below w.heap.size w w' := by
  obtain ⟨p, c, rfl, hc⟩ := hV.form
  obtain ⟨q, e, rfl, hb⟩ := hB.form
  obtain ⟨n, hn⟩ : ∃ n, C.length = n := ⟨_, rfl⟩
  obtain ⟨m, hm⟩ : ∃ m, B.length = m := ⟨_, rfl⟩
  have hlc : C.length ≤ (cpt C).length := by
    clear hc hb hr hsz hn hV hB
    induction C with
    | nil => simp [cpt]
    | cons a C ih =>
      have : (cpt (a :: C)).length = 1 + (dcm a).data.toList.length + (cpt C).length := by simp [cpt]; omega
      rw [this, List.length_cons]; omega
  have hlb : B.length ≤ (bpt B).length := by
    clear hc hb hr hsz hm hV hB hlc
    induction B with
    | nil => simp [bpt]
    | cons a B ih =>
      have : (bpt (a :: B)).length = 1 + (hex a.data.toList).length + (bpt B).length := by simp [bpt]; omega
      rw [this, List.length_cons]; omega
  have hsz2 : 4 + 1 + (dcm n).size + (cpt C).length + 1 + (dcm pt).size + (bpt B).length ≤ 1000000000000 := by
    have : (dtx C pt B).length = 4 + 1 + (dcm n).size + (cpt C).length + 1 + (dcm pt).size + (bpt B).length := by
      unfold dtx wD
      rw [hn]
      simp only [List.length_append, List.length_cons, List.length_nil]
      have a1 : (dcm (n : Int)).data.toList.length = (dcm (n : Int)).size := rfl
      have a2 : (dcm pt).data.toList.length = (dcm pt).size := rfl
      omega
    omega
  have hni : i64 (n : Int) := ⟨by omega, by omega⟩
  have HC := Lib.hid (And.intro hc (And.intro hr hn)); have HB := Lib.hid (And.intro hb hm)
  have I0 := Lib.hid fun W (h : TS W) => itoa_any W n hni h
  have I2 := Lib.hid fun W (h : TS W) => itoa_any W pt hp h
  have HE := Lib.hid (show dtx C pt B = wD ++ 32 :: (dcm (n : Int)).data.toList ++ cpt C ++ 32 :: (dcm pt).data.toList ++ bpt B by unfold dtx; rw [hn])
  have T0 := ti_start w #[.slice p n c, .int .i64 pt, .slice q m e]
  rw [hn, hm]
  have h9 := Lib.hid hsz2
  have hN : n ≤ 1000000000000 := by omega
  have hM : m ≤ 1000000000000 := by omega
  have HTS := Lib.hid hT
  clear hc hb hr hn hm hlc hlb hsz hsz2 hni hV hB hp hT
  go_enter Tryz.func19, Tryz.ntmps19
  go_upto_region 3 with fail
  change Code.wp _ _ _ _ (((w.alloc (.cells #[.slice p n c, .int .i64 pt, .slice q m e] 34)).alloc (.cells #[.pointer none, .slice none 0 0] tB)).alloc (.cells #[wsv (w.heap.size + 1)] 77))
  generalize ((w.alloc (.cells #[.slice p n c, .int .i64 pt, .slice q m e] 34)).alloc (.cells #[.pointer none, .slice none 0 0] tB)).alloc (.cells #[wsv (w.heap.size + 1)] 77) = W0 at *
  have m0 := T0.mc
  have P0 := Lib.hid (write_ti w W0 _ [] ⟨#[100, 101, 97, 108]⟩ T0 (by decide))
  clear T0
  go_wp2_with fail
  refine P0.out.mono ?_
  rintro e w1 ⟨rfl, T1⟩
  clear m0 P0
  have K1 := Lib.hid (show TI w _ wD w1 from T1); clear T1
  obtain ⟨k0, k1, k2⟩ := K1.out.c
  go_wp2_with fail
  refine (I0.out _ (HTS.out.below K1.out.b)).mono ?_
  rintro e w2 ⟨rfl, b2⟩
  have K2 := Lib.hid (K1.out.next b2)
  clear b2 K1 k0 k1 k2
  have P2 := Lib.hid (part_ti w w2 _ wD (dcm (n : Int)) K2.out (by have := h9.out; show 4 + 1 + _ ≤ _; omega))
  clear K2
  obtain ⟨dn, hdn⟩ : ∃ dn, dcm (n : Int) = dn := ⟨_, rfl⟩
  rw [hdn] at P2 HE h9
  clear I0
  have hdn := Lib.hid hdn
  rw [hdn.out]
  go_wp2_with fail
  refine P2.out.mono ?_
  rintro e w3 ⟨rfl, T3⟩
  have K3 := Lib.hid T3; clear T3 P2
  obtain ⟨k0, k1, k2⟩ := K3.out.c
  obtain ⟨q0, hq0⟩ : ∃ q0, wD ++ 32 :: dn.data.toList = q0 := ⟨_, rfl⟩
  rw [hq0] at K3
  have l0 : q0.length = 5 + dn.size := by rw [← hq0]; have : dn.data.toList.length = dn.size := rfl; simp [wD]; omega
  have HQ0 := Lib.hid hq0; clear hq0
  have L0 := Lib.hid l0; clear l0
  go_upto_region 7 with fail
  clear k0 k1 k2
  go_loopw [23] (fun i wr => ∃ k : Nat, k ≤ n ∧ i = .int .i64 (k : Int) ∧ Hid (TI w #[.slice p n c, .int .i64 pt, .slice q m e] (q0 ++ cpt (C.take k)) wr)) (fun i _ => n - (match i with | .int _ i => i.toNat | _ => 0))
  case atStart => exact ⟨0, Nat.zero_le _, rfl, by simpa [cpt] using K3⟩
  case round =>
    clear K3
    obtain ⟨k, hk, rfl, HT⟩ := hrel
    by_cases hlt : k < n
    · obtain ⟨x, hx⟩ : ∃ x, C[k]? = some x := ⟨C[k]'(by rw [HC.out.2.2]; exact hlt), List.getElem?_eq_getElem _⟩
      obtain ⟨b, o, hp, hcx⟩ := HC.out.1 k x hx
      subst hp
      have hcell := (HT.out.b.cell (p := ⟨b, o + k, none⟩) (World.block_lt_of_cell? _ _ hcx)).trans hcx
      have hix := HC.out.2.1 x (List.mem_of_getElem? hx)
      have J := Lib.hid fun W (h : TS W) => itoa_any W x hix h
      have hts := Lib.hid (show C.take (k+1) = C.take k ++ [x] by rw [List.take_add_one, hx]; rfl)
      have hle := cpt_take_le C (k+1)
      have hle2 := cpt_snoc (C.take k) x
      rw [← hts.out] at hle2
      rw [hle2, List.length_append, List.length_cons] at hle
      have hd : (dcm x).data.toList.length = (dcm x).size := rfl
      have P := Lib.hid fun (V : World) (hV : TI w #[.slice (some ⟨b, o, none⟩) n c, .int .i64 pt, .slice q m e] (q0 ++ cpt (C.take k)) V) => part_ti w V _ _ (dcm x) hV (by have := h9.out; have := L0.out; rw [List.length_append]; omega)
      clear hx hcx hix hle hle2 hd
      have hst := Lib.hid (cpt_snoc (C.take k) x)
      generalize dcm x = dx at *
      go_wp2_with fail
      refine (J.out _ (HTS.out.below HT.out.b)).mono ?_
      rintro e w4 ⟨rfl, b4⟩
      have K4 := Lib.hid (HT.out.next b4); clear b4 hcell J
      go_wp2_with fail
      refine (P.out _ K4.out).mono ?_
      rintro e w5 ⟨rfl, T5⟩
      have K5 := Lib.hid (show TI w #[.slice (some ⟨b, o, none⟩) n c, .int .i64 pt, .slice q m e] (q0 ++ cpt (C.take (k+1))) w5 by rw [hts.out, hst.out, ← List.append_assoc]; exact T5)
      clear T5 K4 P
      go_wp2
      exact ⟨⟨k + 1, by omega, by go_num, K5⟩, by simp; omega⟩
    · obtain rfl : k = n := by omega
      have hC2 := Lib.hid (show C.take k = C from List.take_of_length_le (by rw [HC.out.2.2]; exact Nat.le_refl _))
      rw [hC2.out] at HT
      clear HC hC2
      obtain ⟨k0, k1, k2⟩ := HT.out.c
      go_wp2_with fail
      refine (I2.out _ (HTS.out.below HT.out.b)).mono ?_
      rintro e w4 ⟨rfl, b4⟩
      have K4 := Lib.hid (HT.out.next b4); clear b4 k0 k1 k2
      have P := Lib.hid (part_ti w w4 _ _ (dcm pt) K4.out (by have := h9.out; have := L0.out; rw [List.length_append]; omega))
      clear K4 I2 HT
      obtain ⟨dp, hdp⟩ : ∃ dp, dcm pt = dp := ⟨_, rfl⟩
      rw [hdp] at P HE h9
      rw [hdp]
      clear hdp
      go_wp2_with fail
      refine P.out.mono ?_
      rintro e w5 ⟨rfl, T5⟩
      obtain ⟨q1, hq1⟩ : ∃ q1, q0 ++ cpt C ++ 32 :: dp.data.toList = q1 := ⟨_, rfl⟩
      rw [hq1] at T5
      have K5 := Lib.hid T5; clear T5 P
      have l1 : q1.length = 5 + dn.size + (cpt C).length + 1 + dp.size := by rw [← hq1]; have : dp.data.toList.length = dp.size := rfl; have := L0.out; simp; omega
      have HQ1 := Lib.hid hq1; clear hq1
      have L1 := Lib.hid l1; clear l1
      obtain ⟨k0, k1, k2⟩ := K5.out.c
      go_upto_region 13 with fail
      clear k0 k1 k2
      go_loopw [40] (fun i wr => ∃ j : Nat, j ≤ m ∧ i = .int .i64 (j : Int) ∧ Hid (TI w #[.slice p k c, .int .i64 pt, .slice q m e] (q1 ++ bpt (B.take j)) wr)) (fun i _ => m - (match i with | .int _ i => i.toNat | _ => 0))
      case atStart => exact ⟨0, Nat.zero_le _, rfl, by simpa [bpt] using K5⟩
      case round =>
        clear K5
        obtain ⟨j, hj, rfl, HT⟩ := hrel
        by_cases hlt2 : j < m
        · obtain ⟨x, hx⟩ : ∃ x, B[j]? = some x := ⟨B[j]'(by rw [HB.out.2]; exact hlt2), List.getElem?_eq_getElem _⟩
          obtain ⟨b, o, hp, hcx⟩ := HB.out.1 j x hx
          subst hp
          have hcell := (HT.out.b.cell (p := ⟨b, o + j, none⟩) (World.block_lt_of_cell? _ _ hcx)).trans hcx
          have hxs := b_size B j x hx
          have J := Lib.hid fun W => hexadecimal_any W x (by have := h9.out; omega)
          have hts := Lib.hid (show B.take (j+1) = B.take j ++ [x] by rw [List.take_add_one, hx]; rfl)
          have hle := bpt_take_le B (j+1)
          have hle2 := bpt_snoc (B.take j) x
          rw [← hts.out] at hle2
          rw [hle2, List.length_append, List.length_cons] at hle
          obtain ⟨dx, hdx⟩ : ∃ dx : ByteArray, (⟨(hex x.data.toList).toArray⟩ : ByteArray) = dx := ⟨_, rfl⟩
          have hdl : dx.data.toList = hex x.data.toList := by rw [← hdx]
          have hd : dx.data.toList.length = dx.size := rfl
          rw [← hdl] at hle
          have P := Lib.hid fun (V : World) (hV : TI w #[.slice p k c, .int .i64 pt, .slice (some ⟨b, o, none⟩) m e] (q1 ++ bpt (B.take j)) V) => part_ti w V _ _ dx hV (by have := h9.out; have := L1.out; rw [List.length_append]; omega)
          rw [hdx] at J
          have hst := Lib.hid (show bpt (B.take j ++ [x]) = bpt (B.take j) ++ 32 :: dx.data.toList by rw [bpt_snoc, hdl])
          clear hx hcx hle hle2 hd hdx hdl hxs
          go_wp2_with fail
          refine (J.out _).mono ?_
          rintro e w6 ⟨rfl, b6⟩
          have K6 := Lib.hid (HT.out.next b6); clear b6 hcell J
          go_wp2_with fail
          refine (P.out _ K6.out).mono ?_
          rintro e w7 ⟨rfl, T7⟩
          have K7 := Lib.hid (show TI w #[.slice p k c, .int .i64 pt, .slice (some ⟨b, o, none⟩) m e] (q1 ++ bpt (B.take (j+1))) w7 by rw [hts.out, hst.out, ← List.append_assoc]; exact T7)
          clear T7 K6 P
          go_wp2
          exact ⟨⟨j + 1, by omega, by go_num, K7⟩, by simp; omega⟩
        · obtain rfl : j = m := by omega
          have hB2 := Lib.hid (show B.take j = B from List.take_of_length_le (by rw [HB.out.2]; exact Nat.le_refl _))
          rw [hB2.out] at HT
          have S := Lib.hid (Tryz.Builder_String_any (w.heap.size + 1) (w.heap.size + 1) (q1 ++ bpt B) wr HT.out.builder (by have := HT.out.lt; omega))
          have hfin := Lib.hid (show q1 ++ bpt B = dtx C pt B by rw [HE.out, ← HQ1.out, ← HQ0.out])
          clear hB2 HB
          go_wp2_with fail
          refine S.out.mono ?_
          rintro e w6 ⟨rfl, b6⟩
          have hb6 := Lib.hid (HT.out.b.trans (b6.mono (by omega))); clear b6 S
          go_wp2
          go_ret
          exact ⟨by rw [← hfin.out]; rfl, hb6.out⟩
end Go.Proofs.YtjfbpmpdcmealaaGreatDoor.D7
