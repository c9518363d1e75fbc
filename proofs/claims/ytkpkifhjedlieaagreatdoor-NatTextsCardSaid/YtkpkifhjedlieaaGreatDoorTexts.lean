/-
  The walk of the law NatTexts.
-/
import Derived.StillTailTactics
import Derived.Test.YtkpkifhjedlieaaGreatDoorTextA
import Derived.Test.YtkpkifhjedlieaaGreatDoorRefText
import Derived.Test.YtkpkifhjedlieaaGreatDoorParseA
import Derived.Test.YtkpkifhjedlieaaGreatDoorSanity
import Derived.Deep.RegionHeld
namespace Go.Proofs.YtkpkifhjedlieaaGreatDoor
open Go.RowKit NM
theorem dig_nat (d : Nat) (h : d < 10) : (UInt8.ofNat (48 + d)).toNat = 48 + d := by
  simp; omega
theorem dec_spec : ∀ n, dval (Lib.decDigits n) = n ∧ (∀ c ∈ Lib.decDigits n, isdg c = true) ∧ (0 < n → (Lib.decDigits n)[0]? ≠ some 48) ∧ Lib.decDigits n ≠ [] := by
  intro n
  induction n using Nat.strongRecOn with
  | ind n ih =>
    by_cases h : n < 10
    · rw [Lib.decDigits_one h]
      refine ⟨?_, fun c hc => ?_, fun h0 h1 => ?_, by simp⟩
      · show 10 * 0 + ((UInt8.ofNat (48 + n)).toNat - 48) = n
        rw [dig_nat n h]; omega
      · rw [List.mem_singleton.1 hc]
        exact decide_eq_true (by rw [dig_nat n h]; omega)
      · have h2 : UInt8.ofNat (48 + n) = 48 := by simpa using h1
        have h3 := congrArg UInt8.toNat h2
        rw [dig_nat n h] at h3
        have : (48 : UInt8).toNat = 48 := rfl
        omega
    · obtain ⟨i1, i2, i3, i4⟩ := ih (n / 10) (by omega)
      have e : Lib.decDigits n = Lib.decDigits (n / 10) ++ [UInt8.ofNat (48 + n % 10)] := by
        conv => lhs; rw [Lib.decDigits, dif_neg h]
      rw [e]
      refine ⟨?_, fun c hc => ?_, fun _ h1 => ?_, by simp⟩
      · rw [dval_snoc, i1, dig_nat _ (Nat.mod_lt _ (by omega))]; omega
      · rcases List.mem_append.1 hc with h2 | h2
        · exact i2 c h2
        · rw [List.mem_singleton.1 h2]
          exact decide_eq_true (by rw [dig_nat _ (Nat.mod_lt _ (by omega))]; omega)
      · apply i3 (by omega)
        rw [List.getElem?_append_left (List.length_pos_iff.2 i4)] at h1
        exact h1
theorem parse_dtext (n : Nat) : ParseV (dtext n) = .tuple #[.string (NB n), .bool true] := by
  obtain ⟨h1, h2, h3, h4⟩ := dec_spec n
  unfold ParseV
  have e : (dtext n).data.toList = Lib.decDigits n := rfl
  rw [e, if_pos, h1]
  refine ⟨h4, h2, ?_⟩
  by_cases h : 0 < n
  · exact .inr (h3 h)
  · left
    have : n = 0 := by omega
    subst this
    rw [Lib.decDigits_one (by omega)]; rfl
theorem dtext_size (a : ByteArray) (h : a.size ≤ 40) : (dtext (sv a)).size ≤ 121 ∧ 0 < (dtext (sv a)).size := by
  have e : (dtext (sv a)).size = (Lib.decDigits (sv a)).length := List.size_toArray
  rw [e]
  refine ⟨Nat.le_trans (dec_len (3 * a.size + 1) (sv a) (by omega) ?_) (by omega), List.length_pos_iff.2 (dec_spec _).2.2.2⟩
  have h1 := sv_lt_size a
  have h2 : 256^a.size ≤ (10^3)^a.size := Nat.pow_le_pow_left (by decide) _
  rw [← Nat.pow_mul] at h2
  rw [Nat.pow_succ]
  omega
set_option maxRecDepth 100000 in
set_option maxHeartbeats 2000000 in
theorem Text_zero (w : World) (a : ByteArray) (ha : a.size ≤ 100000) (h0 : sv a = 0) :
    Calls Tryz.prog 29 #[.string a] w fun e w' => e = .returned (.string ⟨#[48]⟩) ∧ Below w.heap.size w w' := by
  go_enter Tryz.func29, Tryz.ntmps29
  go_wp2_with fail
  refine (words_any _ a (by omega)).mono ?_
  rintro e w1 ⟨X, oX, vX, tX, bX, lX, rfl⟩
  obtain rfl := words_zero tX (Eq.trans vX h0)
  clear lX vX oX tX
  go_wp2_with fail
  go_loop [4, 3] (fun l p => l = .slice (some ⟨w.heap.size, 0, none⟩) 0 0 ∧ p = .slice none 0 0) (fun _ _ => 0)
  case atStart => exact ⟨rfl, rfl⟩
  case round =>
    obtain ⟨rfl, rfl⟩ := hrel
    go_wp2
    go_ret
    exact ⟨rfl, bX⟩
theorem Text_all (w : World) (a : ByteArray) (ha : a.size ≤ 100000) (hg : 3 < w.heap.size) (ht : P10 w) :
    Calls Tryz.prog 29 #[.string a] w fun e w' => e = .returned (.string (dtext (sv a))) ∧ Below w.heap.size w w' := by
  by_cases h0 : sv a = 0
  · have := Text_zero w a ha h0
    rwa [show dtext (sv a) = ⟨#[48]⟩ by rw [h0]; unfold dtext; rw [Lib.decDigits_one (by omega)]; rfl]
  · exact Text_any w a ha h0 hg ht
theorem ParseV_form (s : ByteArray) : ∃ (t : ByteArray) (o : Bool), ParseV s = .tuple #[.string t, .bool o] := by
  unfold ParseV; split
  · exact ⟨_, _, rfl⟩
  · exact ⟨_, _, rfl⟩
/-- bytes of a string, that may be written -/
theorem bytes_free (w : World) (s : ByteArray) : ∃ cap w1, (convert 9 22 (.string s)).run Tryz.prog w = .ok (.slice (some ⟨w.heap.size, 0, none⟩) s.size cap) w1 ∧ Below w.heap.size w w1 ∧ w1.heap.size = w.heap.size + 1 ∧ s.size ≤ cap ∧
    (∀ j (h : j < s.size), w1.cell? ⟨w.heap.size, j, none⟩ = some (.int .u8 ((s[j]'h).toNat : Nat))) ∧ (∀ j, j < s.size → w1.frozen? ⟨w.heap.size, j, none⟩ = false) := by
  have h := run_bytes_of_string w 9 22 5 s Tryz.underlying9 Tryz.underlying22 Tryz.underlying5
  obtain ⟨cap, hcap⟩ : ∃ cap, cap = grownCap w s.size 0 5 := ⟨_, rfl⟩
  rw [← hcap] at h
  have hh : (w.drew.alloc (.cells (bytesRow s cap) 5 ((bytesRow s cap).size, (bytesRow s cap).size + 1))).heap[w.heap.size]? = some (.cells (bytesRow s cap) 5 ((bytesRow s cap).size, (bytesRow s cap).size + 1)) := by
    show (w.heap.push _)[w.heap.size]? = _
    simp
  refine ⟨cap, _, h, (Below.refl _ w).drew.alloc (Nat.le_refl _) _, ?_, by rw [hcap]; exact grownCap_ge _ _ _ _, fun j hj => ?_, fun j hj => ?_⟩
  · show (w.heap.push _).size = _
    simp
  · rw [Lib.cell_of_heap hh, bytesRow_at _ _ _ hj]; rfl
  · have hsz : s.size ≤ (bytesRow s cap).size := by
      apply Nat.le_of_not_lt; intro h2
      have h3 := bytesRow_at s cap (bytesRow s cap).size h2
      rw [Array.getElem?_eq_none (Nat.le_refl _)] at h3; cases h3
    unfold World.frozen?
    rw [hh]
    simp
    omega
/-- the box of the change lies as it did -/
structure BoxQ (w : World) (e0 e1 : Nat) (W : World) : Prop where
  c0 : W.cell? ⟨w.heap.size, 0, none⟩ = some (.int .u8 (e0 : Nat))
  c1 : W.cell? ⟨w.heap.size, 1, none⟩ = some (.int .u8 (e1 : Nat))
  lt : w.heap.size < W.heap.size
  bl : Below w.heap.size w W
theorem BoxQ.next {w : World} {e0 e1 : Nat} {W W' : World} (h : BoxQ w e0 e1 W) (b : Below W.heap.size W W') : BoxQ w e0 e1 W' :=
  ⟨(b.cell (p := ⟨w.heap.size, 0, none⟩) h.lt).trans h.c0, (b.cell (p := ⟨w.heap.size, 1, none⟩) h.lt).trans h.c1, Nat.lt_of_lt_of_le h.lt b.size, h.bl.trans (b.mono h.bl.size)⟩
theorem BoxQ.start (w : World) (e0 e1 : Nat) (t : TypeId) : BoxQ w e0 e1 (w.alloc (.cells #[.int .u8 (e0 : Nat), .int .u8 (e1 : Nat)] t)) :=
  ⟨by rw [World.cell?_alloc_at _ _ _ _ rfl]; rfl, by rw [World.cell?_alloc_at _ _ _ _ rfl]; rfl, by simp, (Below.refl _ w).alloc (Nat.le_refl _) _⟩
theorem cells6s (w : World) (t : TypeId) (A B C D E F : ByteArray) (a : A.size ≤ 1000) (b : B.size ≤ 1000) (c : C.size ≤ 1000) (d : D.size ≤ 1000) (e : E.size ≤ 1000) (f : F.size ≤ 1000) : ∀ j, j < 6 → ∃ X : ByteArray, X.size ≤ 1000 ∧
    (w.alloc (.cells #[.string A, .string B, .string C, .string D, .string E, .string F] t)).cell? ⟨w.heap.size, j, none⟩ = some (.string X) := by
  intro j hj
  rw [World.cell?_alloc_at _ _ _ _ rfl]
  match j, hj with
  | 0, _ => exact ⟨A, a, rfl⟩
  | 1, _ => exact ⟨B, b, rfl⟩
  | 2, _ => exact ⟨C, c, rfl⟩
  | 3, _ => exact ⟨D, d, rfl⟩
  | 4, _ => exact ⟨E, e, rfl⟩
  | 5, _ => exact ⟨F, f, rfl⟩
/-- bytes that lie in a row, as a string again -/
theorem bytes_back (W : World) (p n cap : Nat) (hc : ∀ j, j < n → ∃ b : UInt8, W.cell? ⟨p, j, none⟩ = some (.int .u8 (b.toNat : Nat))) (hp : p < W.heap.size) :
    ∃ S2 : ByteArray, S2.size = n ∧ ∀ W', Below (p+1) W W' → (convert 22 9 (.slice (some ⟨p, 0, none⟩) n cap)).run Tryz.prog W' = .ok (.string S2) W' := by
  have hc2 : ∀ j, ∃ b : UInt8, j < n → W.cell? ⟨p, j, none⟩ = some (.int .u8 (b.toNat : Nat)) := fun j => by
    by_cases h : j < n
    · obtain ⟨b, hb⟩ := hc j h; exact ⟨b, fun _ => hb⟩
    · exact ⟨0, fun h2 => absurd h2 h⟩
  obtain ⟨f, hf⟩ := Classical.axiomOfChoice hc2
  refine ⟨⟨((List.range n).map f).toArray⟩, by show ((List.range n).map f).toArray.size = n; simp, fun W' hB => ?_⟩
  have h := run_convert_bytes_back (P := Tryz.prog) W' 22 9 5 ⟨p, 0, none⟩ cap ((List.range n).map f) Tryz.underlying22 Tryz.underlying5 Tryz.underlying9 (fun j hj => by
    have hj2 : j < n := by simpa using hj
    rw [Lib.add_plain, Nat.zero_add, hB.cell (p := ⟨p, j, none⟩) (Nat.lt_succ_self p), hf j hj2]
    simp)
  rwa [show ((List.range n).map f).length = n by simp] at h
set_option maxRecDepth 100000 in
set_option maxHeartbeats 8000000 in
theorem texts_walk (w : World) (v0 : Value) (raw : ByteArray) (e0 e1 : Nat) (he0 : e0 < 256) (he1 : e1 < 256) (h0 : ∀ W, Below w.heap.size w W → Calls Tryz.prog 11 #[v0] W (MadeQ W))
    (hT : DB w) (hg : 2 < w.heap.size) (hP : P10 w) (hg2 : 3 < w.heap.size) :
    Calls Tryz.prog 8 #[v0, .string raw, .agg #[.int .u8 (e0 : Nat), .int .u8 (e1 : Nat)]] w fun e w' => e = .returned (.bool true) ∧ Below w.heap.size w w' := by
  have S0 := BoxQ.start w e0 e1 41
  have HP := Lib.hid hP
  go_enter Tryz.func8, Tryz.ntmps8
  go_wp2_with fail
  generalize w.alloc (.cells #[.int .u8 (e0 : Nat), .int .u8 (e1 : Nat)] 41) = W0 at *
  have hs := sanity_any W0 (fun j hj => (S0.bl.cell (p := ⟨2, j, none⟩) hg).trans (hT j hj)) (Nat.lt_of_lt_of_le hg S0.bl.size) (hP.below S0.bl hg2) (Nat.lt_of_lt_of_le hg2 S0.bl.size)
  refine hs.mono ?_
  clear hs hT hP
  rintro e W1 ⟨rfl, b⟩
  replace S0 := S0.next b; clear b W0
  go_wp2_with fail
  refine (h0 _ S0.bl).mono ?_
  rintro e w' ⟨A, sA, rfl, rfl⟩
  have hsz := dtext_size A sA
  have hPT := parse_dtext (sv A)
  have hTX := fun (W : World) (h : Below w.heap.size w W) => Text_all W A (by omega) (Nat.lt_of_lt_of_le hg2 h.size) (HP.out.below h hg2)
  have hRT := fun (W : World) => RefText_any W A (by omega)
  have hCN := fun (W : World) => Canon_any W A (by omega)
  rw [tz_NB] at hCN
  obtain ⟨S, hS⟩ : ∃ S, S = dtext (sv A) := ⟨_, rfl⟩
  rw [← hS] at hsz hPT hTX hRT
  have hPS := fun (W : World) => Parse_any W S (by omega)
  rw [hPT] at hPS
  have HT := Lib.hid (And.intro hTX (And.intro hRT (And.intro hCN hPS))); clear hTX hRT hCN hPS hPT hS sA
  go_wp2_with fail
  refine (HT.out.1 _ S0.bl).mono ?_
  rintro e w' ⟨rfl, b⟩
  replace S0 := S0.next b; clear b
  go_wp2_with fail
  refine (HT.out.2.2.2 _).mono ?_
  rintro e w' ⟨rfl, b⟩
  replace S0 := S0.next b; clear b
  go_wp2_with fail
  refine (HT.out.2.1 _).mono ?_
  rintro e w' ⟨rfl, b⟩
  replace S0 := S0.next b; clear b
  go_wp2_with fail
  refine (HT.out.2.2.1 _).mono ?_
  rintro e w' ⟨rfl, rfl⟩
  obtain ⟨cap, W5, hcv, hB5, hs5, hcap, hcell, hfree⟩ := bytes_free w' S
  have S5 := S0.next hB5
  have hSp := hsz.2
  have hz0 : ((S.size : Int) == 0) = false := beq_eq_false_iff_ne.2 (by omega)
  obtain ⟨i, hi⟩ : ∃ i, i = e0 % S.size := ⟨_, rfl⟩
  have hiS : i < S.size := by rw [hi]; exact Nat.mod_lt _ hSp
  have hci := hcell i hiS
  have hfi := hfree i hiS
  have HCell := Lib.hid hcell; clear hcell hfree HT
  go_wp2_with fail
  have x0 : IntKind.i64.wrap (e0 : Int) = (e0 : Int) := IntWalk.i64_in _ ⟨by omega, by omega⟩
  have xi : IntKind.i64.wrap (i : Int) = (i : Int) := IntWalk.i64_in _ ⟨by omega, by omega⟩
  have c0 : W5.drew.cell? ⟨w.heap.size, 0, none⟩ = some (.int .u8 (e0 : Nat)) := S5.c0
  have c1 : W5.drew.cell? ⟨w.heap.size, 1, none⟩ = some (.int .u8 (e1 : Nat)) := S5.c1
  have hci' : W5.drew.cell? ⟨w'.heap.size, i, none⟩ = some (.int .u8 ((S[i]'hiS).toNat : Nat)) := hci
  have hfi' : W5.drew.frozen? ⟨w'.heap.size, i, none⟩ = false := hfi
  have xr2 : (e0 : Int).tmod (S.size : Int) = (i : Int) := by rw [hi, Int.tmod_eq_emod_of_nonneg (by omega)]; omega
  have hzn : ¬ S.size = 0 := by omega
  have hzn2 : (S.size == 0) = false := beq_eq_false_iff_ne.2 hzn
  have hi0 : (0 : Int) ≤ (i : Int) := by omega
  have hi1 : (i : Int) < (S.size : Int) := by omega
  have HC6 : Hid (∀ j (h : j < S.size), W5.drew.cell? ⟨w'.heap.size, j, none⟩ = some (.int .u8 ((S[j]'h).toNat : Nat))) := Lib.hid HCell.out
  have hB6 : Below w.heap.size w W5.drew := S5.bl.drew
  have hs6 : Hid (W5.drew.heap.size = w'.heap.size + 1) := Lib.hid hs5
  clear hi S5 HCell hs5 hB5
  have HS0 := Lib.hid hsz; clear hsz
  go_still_tail 10, (by kernel_rfl)
  change wpList _ _ _ _ _ W5.drew
  generalize W5.drew = W6 at *
  go_wp2_with fail
  obtain ⟨S2, hz2, hS2⟩ := bytes_back (W6.setCell { block := w'.heap.size, off := i } (Value.int IntKind.u8 (e1 : Nat))) w'.heap.size S.size cap (fun j hj => by
    by_cases e : j = i
    · subst e
      exact ⟨UInt8.ofNat e1, by rw [World.cell?_setCell_same _ _ _ hci']; simp; omega⟩
    · exact ⟨_, by rw [World.cell?_setCell_other _ _ _ _ (by intro h; injection h with h1 h2; exact e h2.symm)]; exact HC6.out j hj⟩) (by have := hs6.out; simp; omega)
  have hB7 : Below w.heap.size w (W6.setCell { block := w'.heap.size, off := i } (Value.int IntKind.u8 (e1 : Nat))) := hB6.setCell (Nat.le_of_lt S0.lt) _
  have hs7 : Hid ((W6.setCell { block := w'.heap.size, off := i } (Value.int IntKind.u8 (e1 : Nat))).heap.size = w'.heap.size + 1) := Lib.hid (by have := hs6.out; simp; omega)
  obtain ⟨m, hm⟩ : ∃ m : Nat, min (raw.size : Int) 100 = (m : Int) := ⟨min raw.size 100, by omega⟩
  have hm0 : (0 : Int) ≤ (m : Int) := by omega
  have hm1 : (m : Int) ≤ (raw.size : Int) := by omega
  have hm2 : m ≤ raw.size := by omega
  have hm3 : m ≤ 100 := by omega
  have hs1 : (1 : Int) ≤ (S.size : Int) := by omega
  have hL1 : (9223372036854775807 < 1 + S.size) = False := eq_false (by have := HS0.out; omega)
  have hL2 : (9223372036854775807 < S.size + 1) = False := eq_false (by have := HS0.out; omega)
  clear hi0 hi1 xr2 x0 xi c0 c1 hci' hfi' hci hfi hcv HC6 hB6 hs6
  have hlt := S0.lt
  generalize W6.setCell { block := w'.heap.size, off := i } (Value.int IntKind.u8 (e1 : Nat)) = W7 at *
  clear W6
  have hl7 : w'.heap.size + 1 ≤ W7.heap.size := by have := hs7.out; omega
  go_region_held3 (fun W => (convert 22 9 (.slice (some ⟨w'.heap.size, 0, none⟩) S.size cap)).run Tryz.prog W = .ok (.string S2) W) (first | exact hS2 _ ((Below.refl _ _).drew) | exact hS2 _ (((Below.refl _ _).drew).alloc hl7 _)) (fail)
  have hc8 := cells6s W7 9 (raw.extract 0 m) S2 (⟨#[48]⟩ ++ S) (S ++ ⟨#[48]⟩) (S.extract 1 S.size) (S ++ ⟨#[32]⟩)
    (by rw [ByteArray.size_extract]; omega) (by have := HS0.out; omega) (by have := HS0.out; rw [ByteArray.size_append]; show 1 + S.size ≤ 1000; omega) (by have := HS0.out; rw [ByteArray.size_append]; show S.size + 1 ≤ 1000; omega) (by have := HS0.out; rw [ByteArray.size_extract]; omega) (by have := HS0.out; rw [ByteArray.size_append]; show S.size + 1 ≤ 1000; omega)
  replace hc8 := fun j hj => (show ∃ X : ByteArray, X.size ≤ 1000 ∧ (W7.alloc (.cells #[.string (raw.extract 0 m), .string S2, .string (⟨#[48]⟩ ++ S), .string (S ++ ⟨#[48]⟩), .string (S.extract 1 S.size), .string (S ++ ⟨#[32]⟩)] 9)).drew.cell? ⟨W7.heap.size, j, none⟩ = some (.string X) from hc8 j hj)
  have hB8 := (hB7.alloc (w := W7) (by have := hs7.out; omega) (.cells #[.string (raw.extract 0 m), .string S2, .string (⟨#[48]⟩ ++ S), .string (S ++ ⟨#[48]⟩), .string (S.extract 1 S.size), .string (S ++ ⟨#[32]⟩)] 9)).drew
  have hs8 : Hid ((W7.alloc (.cells #[.string (raw.extract 0 m), .string S2, .string (⟨#[48]⟩ ++ S), .string (S ++ ⟨#[48]⟩), .string (S.extract 1 S.size), .string (S ++ ⟨#[32]⟩)] 9)).drew.heap.size = W7.heap.size + 1) := Lib.hid (by simp)
  have hl8 : w.heap.size ≤ W7.heap.size := by have := hs7.out; omega
  have HC8 := Lib.hid hc8
  clear hc8 hB7 hs7 hl7 hm hm0 hm1 hm2 hm3 hs1 hL1 hL2 hlt hz2 hS2 hcap hSp hz0 hzn hzn2 S0
  generalize (W7.alloc (.cells #[.string (raw.extract 0 m), .string S2, .string (⟨#[48]⟩ ++ S), .string (S ++ ⟨#[48]⟩), .string (S.extract 1 S.size), .string (S ++ ⟨#[32]⟩)] 9)).drew = W8 at *
  have hg8 : W7.heap.size < W8.heap.size := by have := hs8.out; omega
  clear hs8
  obtain ⟨g, hgg⟩ : ∃ g, g = W7.heap.size := ⟨_, rfl⟩
  rw [← hgg] at HC8 hg8 hl8 ⊢
  clear hgg HS0 hg2 hg HP
  go_wp2_with fail
  go_loopw [77] (fun i wr => ∃ (j : Nat) (kk : Int), j ≤ 6 ∧ kk = (j : Int) ∧ i = .int .i64 kk ∧ Below W8.heap.size W8 wr) (fun i _ => 6 - (intOf i).toNat)
  case atStart => exact ⟨0, 0, by omega, rfl, rfl, Below.refl _ _⟩
  case round =>
    obtain ⟨j, kk, hj, hkk, rfl, hBr⟩ := hrel
    by_cases hlj : j < 6
    · subst hkk
      obtain ⟨X, sX, c0⟩ := HC8.out j hlj
      have d0 := (hBr.cell (p := ⟨g, j, none⟩) hg8).trans c0
      clear c0
      have hdj : decide ((j : Int) < 6) = true := by simp; omega
      obtain ⟨t, o, hto⟩ := ParseV_form X
      have hX : X.size ≤ 100000 := by omega
      have hP1 := fun W => Parse_any W X hX
      have hP2 := fun W => RefParse_any W X hX
      rw [hto] at hP1 hP2
      clear hto sX hX
      go_wp2_with fail
      clear d0
      refine (hP1 _).mono ?_
      rintro e w5 ⟨rfl, b5⟩
      go_wp2_with fail
      refine (hP2 _).mono ?_
      rintro e w6 ⟨rfl, b6⟩
      have hBn := hBr.trans ((b5.mono hBr.size).trans (b6.mono (Nat.le_trans hBr.size b5.size)))
      clear b5 b6
      go_wp2_with fail
      exact ⟨⟨j + 1, _, hlj, rfl, by go_num, hBn⟩, by simp [intOf]; omega⟩
    · obtain rfl : kk = 6 := by omega
      have hBF := hB8.trans (hBr.mono hB8.size)
      clear HC8 hlj hj hkk hB8 hBr hg8
      go_wp2
      go_ret
      exact ⟨rfl, hBF⟩
end Go.Proofs.YtkpkifhjedlieaaGreatDoor
