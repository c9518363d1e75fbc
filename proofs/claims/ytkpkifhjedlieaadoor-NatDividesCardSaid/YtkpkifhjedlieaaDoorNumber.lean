/-
  The walk of nat.number: it writes the bytes of words, and drops the zeros in front.
-/
import Derived.Test.YtkpkifhjedlieaaDoorWords
namespace Go.Proofs.YtkpkifhjedlieaaDoor
open Go.RowKit NM
/-- bytes in memory -/
structure BRow (w : World) (b o : Nat) (X : List Nat) : Prop where
  cell : ∀ j, j < X.length → w.cell? ⟨b, o+j, none⟩ = some (.int .u8 (gd X j : Nat))
  free : ∀ j, j < X.length → w.frozen? ⟨b, o+j, none⟩ = false
theorem BRow.set {w : World} {b o : Nat} {X : List Nat} (h : BRow w b o X) (k v : Nat) (hk : k < X.length) : BRow (w.setCell ⟨b, o+k, none⟩ (.int .u8 (v : Nat))) b o (X.set k v) where
  cell j hj := by
    rw [List.length_set] at hj
    by_cases e : j = k
    · subst e; rw [gd_set_same X j v hj]; exact World.cell?_setCell_same _ _ _ (h.cell j hj)
    · rw [gd_set_other X k j v e, World.cell?_setCell_other]
      · exact h.cell j hj
      · intro e2; simp at e2; try omega
  free j hj := by
    rw [List.length_set] at hj; rw [World.frozen?_setCell]; exact h.free j hj
theorem infoB : (Tryd.prog.info? 5).map (fun i => (i.zero, i.size, i.bytes)) = some (some (.int .u8 0), 1, 1) := by kernel_rfl
theorem make_bytes (n : Nat) (hn : n ≤ 109951162777600) (u : World) : (Instr.makeSlice 22 (.int .i64 (n : Int)) (.int .i64 (n : Int))).run Tryd.prog u =
    .ok (.slice (some ⟨u.heap.size, 0, none⟩) n n) (u.alloc (.cells (madeCells #[.int .u8 0] n) 5)) := by
  obtain ⟨i0, hi, hz0, hz1, hz2⟩ := info_parts infoB
  have h := run_make (P := Tryd.prog) u 22 5 i0 (.int .u8 0) Tryd.underlying22 hi hz0 .i64 .i64 (n : Int) (n : Int) (by omega) (Int.le_refl _) (by rw [hz2]; omega) (by omega)
  simpa [hz1, Value.cells] using h
theorem brow_made (n t : Nat) (u : World) : BRow (u.alloc (.cells (madeCells #[.int .u8 0] n) t)) u.heap.size 0 (List.replicate n 0) where
  cell j hj := by
    rw [List.length_replicate] at hj
    rw [Nat.zero_add, World.cell?_alloc_at _ _ _ _ rfl, ← Array.getElem?_toList, toList_madeCells_one, List.getElem?_replicate, if_pos hj]
    simp [gd, hj]
  free j hj := by rw [World.frozen?_alloc_at _ _ _ _ rfl]
structure BAt (n b : Nat) (w : World) (N k : Nat) (T : List Nat) (wr : World) : Prop where
  len : T.length = n
  row : BRow wr b 0 T
  only : Only b 0 n w wr
  val : ∀ p, p < k → gd T (n - 1 - p) = byteAt N p
theorem BAt.set {n b N k : Nat} {w wr : World} {T : List Nat} (h : BAt n b w N k T wr) (hk : k < n) : BAt n b w N (k+1) (T.set (n-1-k) (byteAt N k)) (wr.setCell ⟨b, n-1-k, none⟩ (.int .u8 (byteAt N k : Nat))) :=
  ⟨by rw [List.length_set]; exact h.len, by have := h.row.set (n-1-k) (byteAt N k) (by rw [h.len]; omega); rwa [Nat.zero_add] at this, h.only.set _ _ (by omega) (by omega), fun p hp => by
    by_cases e : p = k
    · subst e; rw [gd_set_same _ _ _ (by rw [h.len]; omega)]
    · rw [gd_set_other _ _ _ _ (by omega)]; exact h.val p (by omega)⟩
theorem BAt.list {n b N : Nat} {w wr : World} {T : List Nat} (h : BAt n b w N n T wr) : T.map UInt8.ofNat = bytesN n N := by
  apply List.ext_getElem?
  intro j
  by_cases hj : j < n
  · rw [bytesN_get _ _ _ hj, List.getElem?_map, List.getElem?_eq_getElem (by rw [h.len]; exact hj)]
    have := h.val (n-1-j) (by omega)
    rw [show n - 1 - (n - 1 - j) = j by omega] at this
    simp only [Option.map_some, Option.some.injEq]
    rw [← this]; unfold gd; rw [List.getD_eq_getElem?_getD, List.getElem?_eq_getElem (by rw [h.len]; exact hj)]; rfl
  · rw [List.getElem?_eq_none (by rw [List.length_map, h.len]; omega), List.getElem?_eq_none (by rw [bytesN_length]; omega)]
theorem byte_store (X : List Nat) (k : Nat) (hX : Wd X) : ((gd X (k/8) : Nat) : Int) / 2^(k%8*8) % 256 = ((byteAt (wv X) k : Nat) : Int) := by
  rw [← byte_of_word X hX k]
  have e : ((gd X (k/8) : Nat) : Int) / 2^(k%8*8) = ((gd X (k/8) / 2^(k%8*8) : Nat) : Int) := by rw [Int.natCast_ediv, Int.natCast_pow]; rfl
  rw [e]; unfold gd; omega
/-- the right number of a value, as a string -/
def NB (n : Nat) : ByteArray := ⟨(nb n).toArray⟩
theorem NB_list (n : Nat) : (NB n).data.toList = nb n := rfl
theorem drop_zeros (T : List Nat) (f : Nat) (hf : f ≤ T.length) (hz : ∀ j, j < f → gd T j = 0) (he : f = T.length ∨ (gd T f ≠ 0 ∧ gd T f < 256)) :
    (T.drop f).map UInt8.ofNat = dz (T.map UInt8.ofNat) := by
  induction f generalizing T with
  | zero =>
    rw [List.drop_zero]
    cases T with
    | nil => rfl
    | cons x xs =>
      rcases he with he | ⟨he, hlt⟩
      · simp at he
      · have hx : gd (x :: xs) 0 = x := rfl
        rw [hx] at he hlt
        rw [List.map_cons, dz, if_neg]
        intro h
        have := congrArg UInt8.toNat h
        simp at this; omega
  | succ f ih =>
    cases T with
    | nil => simp at hf
    | cons x xs =>
      have hx : x = 0 := hz 0 (by omega)
      subst hx
      rw [List.drop_succ_cons, List.map_cons, dz, if_pos (by rfl)]
      exact ih xs (by simpa using hf) (fun j hj => hz (j+1) (by omega)) (by simpa [gd] using he)
def NQ (X : List Nat) (w : World) (e : Ending) (w' : World) : Prop := e = .returned (.string (NB (wv X))) ∧ Below w.heap.size w w'
theorem fin_number (X T : List Nat) (f n : Nat) (hn : n = 8 * X.length) (hX : Wd X) (hT : T.length = n) (hl : T.map UInt8.ofNat = bytesN n (wv X)) (hf : f ≤ n) (hz : ∀ j, j < f → gd T j = 0) (he : f = n ∨ (gd T f ≠ 0 ∧ gd T f < 256)) :
    (⟨((T.drop f).map UInt8.ofNat).toArray⟩ : ByteArray) = NB (wv X) := by
  rw [drop_zeros T f (by omega) hz (by rw [hT]; exact he), hl, dz_eq, bv_bytesN, Nat.mod_eq_of_lt]
  · rfl
  · have := wv_lt X hX
    rwa [hn, Nat.pow_mul, ← B64_pow256]
set_option maxHeartbeats 1000000 in
theorem number_any (w : World) (b o cap : Nat) (X : List Nat) (hR : Row w b o X) (hX : Wd X) (hb : b < w.heap.size) (hn : X.length ≤ 1099511627776) (hc : X.length ≤ cap) :
    Calls Tryd.prog 26 #[.slice (some ⟨b, o, none⟩) X.length cap] w (NQ X w) := by
  obtain ⟨m, hm⟩ : ∃ m, m = 8 * X.length := ⟨_, rfl⟩
  have e0 : (8 * (X.length : Int)) = (m : Int) := by omega
  have hmb : m ≤ 8796093022208 := by omega
  have hmk := fun u => make_bytes m (by omega) u
  have hA0 : BAt m w.heap.size (w.alloc (.cells (madeCells #[.int .u8 0] m) 5)) (wv X) 0 (List.replicate m 0) (w.alloc (.cells (madeCells #[.int .u8 0] m) 5)) :=
    ⟨List.length_replicate, brow_made m _ w, Only.refl _ _ _ _, fun p hp => by omega⟩
  have hB1 := (Below.refl w.heap.size w).alloc (Nat.le_refl _) (.cells (madeCells #[.int .u8 0] m) 5)
  have hR1 := hR.alloc hb (.cells (madeCells #[.int .u8 0] m) 5)
  have hz : (w.alloc (.cells (madeCells #[.int .u8 0] m) 5)).heap.size = w.heap.size + 1 := by simp
  have HM := Lib.hid hm; clear hm hR
  go_enter Tryd.func26, Tryd.ntmps26
  go_wp2
  generalize w.alloc (.cells (madeCells #[.int .u8 0] m) 5) = w1 at *
  clear hmk
  have HZ := Lib.hid hz; clear hz
  go_loopw [12] (fun i wr => ∃ (k : Nat) (T : List Nat), k ≤ m ∧ i = .int .i64 (k : Nat) ∧ BAt m w.heap.size w1 (wv X) k T wr) (fun i _ => m - (intOf i).toNat)
  case atStart => exact ⟨0, _, Nat.zero_le _, rfl, hA0⟩
  case round =>
    obtain ⟨k, T, hk, rfl, hA⟩ := hrel
    clear hA0
    by_cases hlt : k < m
    · obtain ⟨p, hp⟩ : ∃ p, p = m - 1 - k := ⟨_, rfl⟩
      have e : ((m : Int) - 1 - (k : Int)) = (p : Int) := by omega
      have hkn : k / 8 < X.length := by have := HM.out; omega
      have hx := (hA.only.row hR1 (by omega) (by rw [HZ.out]; omega)).cell (k/8) hkn
      have hf := hA.row.free p (by rw [hA.len]; omega)
      have ht := hA.row.cell p (by rw [hA.len]; omega)
      rw [Nat.zero_add] at hf ht
      have hpl : p < m := by omega
      have HP := Lib.hid hp; clear hp
      have HR := Lib.hid hR1; clear hR1
      have HS := Lib.hid (byte_store X k hX)
      go_wp2
      go_roundw
      case rel =>
        have hA' := hA.set hlt
        rw [← HP.out] at hA'
        exact ⟨k + 1, _, hlt, by go_num, by rw [HS.out]; exact hA'⟩
      case measure => (simp [intOf]; try omega)
    · obtain rfl : k = m := by omega
      have hl := hA.list
      have HL := Lib.hid hl; clear hl
      have HR := Lib.hid hR1; clear hR1
      clear hlt hk
      go_wp2
      go_loop [5] (fun i => ∃ (f : Nat), f ≤ k ∧ i = .int .i64 (f : Nat) ∧ Hid (∀ j, j < f → gd T j = 0)) (fun i => k - (intOf i).toNat)
      case atStart => exact ⟨0, Nat.zero_le _, rfl, fun j hj => by omega⟩
      case round =>
        obtain ⟨f, hfk, rfl, hz0⟩ := hrel
        by_cases hlt : f < k
        · have hd : decide ((f : Int) < (k : Int)) = true := by simp; omega
          have ht := hA.row.cell f (by rw [hA.len]; exact hlt)
          rw [Nat.zero_add] at ht
          by_cases h0 : gd T f = 0
          · rw [h0] at ht
            have H0 := Lib.hid h0; clear h0
            go_wp2
            go_round
            case rel => exact ⟨f + 1, by omega, by go_num, fun j hj => by
              by_cases ej : j = f
              · rw [ej]; exact H0.out
              · exact hz0.out j (by omega)⟩
            case measure => (simp [intOf]; try omega)
          · have hb0 : ((gd T f : Int) == 0) = false := by simp; omega
            have hg : gd T f < 256 := by
              have h1 := hA.val (k - 1 - f) (by omega)
              rw [show k - 1 - (k - 1 - f) = f by omega] at h1
              rw [h1]; exact Nat.mod_lt _ (by omega)
            have hcv := run_convert_bytes_arg (P := Tryd.prog) wr 22 5 Tryd.underlying22 Tryd.underlying5 w.heap.size f (k - f) (k - f) ((T.drop f).map Int.ofNat) (by rw [List.length_map, List.length_drop, hA.len])
              (fun i hi => by
                have h1 := hA.row.cell (f + i) (by rw [hA.len]; omega)
                rw [Nat.zero_add] at h1
                rw [h1]; congr 2
                simp [gd, List.getD_eq_getElem?_getD, List.getElem?_drop, List.getElem?_eq_getElem (show f + i < T.length by rw [hA.len]; omega)]) 24 Tryd.underlying24
            have he : strOfNums ((T.drop f).map Int.ofNat) = NB (wv X) := by
              rw [← fin_number X T f k HM.out hX hA.len HL.out hfk hz0.out (.inr ⟨h0, hg⟩)]
              simp [strOfNums, List.map_map, Function.comp_def]
            rw [he] at hcv
            have hxx := Lib.hid h0
            clear he hg h0
            set_option maxRecDepth 100000 in
            go_wp2
            go_ret
            exact ⟨rfl, hB1.trans (hA.only.below (Nat.le_refl _) (by have := HZ.out; omega))⟩
        · obtain rfl : f = k := by omega
          have he : (⟨#[]⟩ : ByteArray) = NB (wv X) := by
            rw [← fin_number X T f f HM.out hX hA.len HL.out hfk hz0.out (.inl rfl)]
            rw [List.drop_eq_nil_of_le (by rw [hA.len]; exact Nat.le_refl _)]; rfl
          have hcv : ∀ n, (convert 22 24 (.slice (some ⟨w.heap.size, n, none⟩) 0 0)).run Tryd.prog wr = .ok (.string (NB (wv X))) wr := fun n => by
            rw [← he]
            exact run_convert_bytes_arg (P := Tryd.prog) wr 22 5 Tryd.underlying22 Tryd.underlying5 w.heap.size n 0 0 [] rfl (fun i hi => absurd hi (Nat.not_lt_zero _)) 24 Tryd.underlying24
          clear he
          set_option maxRecDepth 100000 in
          go_wp2
          go_ret
          exact ⟨rfl, hB1.trans (hA.only.below (Nat.le_refl _) (by have := HZ.out; omega))⟩
end Go.Proofs.YtkpkifhjedlieaaDoor
