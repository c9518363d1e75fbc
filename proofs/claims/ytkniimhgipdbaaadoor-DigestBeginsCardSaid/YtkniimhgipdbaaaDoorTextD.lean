/-
  The walks of both packages' Text: the digits of a hash.
-/
import Derived.Test.YtkniimhgipdbaaaDoorRefSum
import Derived.Test.YtkniimhgipdbaaaDoorOwnT
import Derived.Deep.AppendLies
namespace Go.Proofs.YtkniimhgipdbaaaDoor
open Go.RowKit SH
def digs : List UInt8 := [48, 49, 50, 51, 52, 53, 54, 55, 56, 57, 97, 98, 99, 100, 101, 102]
def dB : ByteArray := ⟨#[48, 49, 50, 51, 52, 53, 54, 55, 56, 57, 97, 98, 99, 100, 101, 102]⟩
/-- the digits of bytes -/
def hex : List UInt8 → List UInt8
  | [] => []
  | b :: l => digs.getD (b.toNat / 16) 0 :: digs.getD (b.toNat % 16) 0 :: hex l
theorem hex_length : ∀ l, (hex l).length = 2 * l.length
  | [] => rfl
  | b :: l => by simp [hex, hex_length l]; omega
theorem hex_append : ∀ a b, hex (a ++ b) = hex a ++ hex b
  | [], b => rfl
  | x :: a, b => by simp [hex, hex_append a b]
theorem index_agg (W : World) (l : List UInt8) (hl : l.length = 32) (k : Nat) (h : k < 32) : (Instr.index 29 (hval l) (.int .i64 (k : Int))).run Tryd.prog W = .ok (.int .u8 (gb l k : Nat)) W := by
  have h1 := hcells_get l k (by omega)
  have h0 : (0 : Int) ≤ (k : Int) := by omega
  have h2 : (k : Int) < 32 := by omega
  simp [Instr.index, run_underlying Tryd.underlying29, asIntOf, h0, h2, go_sem, h]
  rw [h1]; rfl
theorem index_dig (W : World) (m : Nat) (h : m < 16) : (Instr.index 9 (.string ⟨#[48, 49, 50, 51, 52, 53, 54, 55, 56, 57, 97, 98, 99, 100, 101, 102]⟩) (.int .u8 (m : Int))).run Tryd.prog W = .ok (.int .u8 ((digs.getD m 0).toNat : Nat)) W := by
  rw [run_index_string _ _ _ _ _ Tryd.underlying9]
  have h1 : (0 : Int) ≤ (m : Int) := by omega
  have h2 : (m : Int) < ((ByteArray.mk #[48, 49, 50, 51, 52, 53, 54, 55, 56, 57, 97, 98, 99, 100, 101, 102]).size : Int) := by show (m : Int) < 16; omega
  rw [dif_pos ⟨h1, h2⟩]
  match m, h with
  | 0, _ => rfl
  | 1, _ => rfl
  | 2, _ => rfl
  | 3, _ => rfl
  | 4, _ => rfl
  | 5, _ => rfl
  | 6, _ => rfl
  | 7, _ => rfl
  | 8, _ => rfl
  | 9, _ => rfl
  | 10, _ => rfl
  | 11, _ => rfl
  | 12, _ => rfl
  | 13, _ => rfl
  | 14, _ => rfl
  | 15, _ => rfl
theorem info8T : Hid ((Tryd.prog.info? 29).map (·.size) = some 32) := Lib.hid (by kernel_rfl)
/-- bytes that the call owns, as a string -/
theorem conv_own {wr : World} {B : Nat} {v : Value} {bs : List UInt8} (h : wr.ownsRow B t8 1 v bs.length (Lib.byteCells bs)) :
    (convert 27 9 v).run Tryd.prog wr = .ok (.string ⟨bs.toArray⟩) wr := by
  rcases h.2 with ⟨hv, h0⟩ | ⟨g, cap, cur, hv, _⟩
  · subst hv
    have hb : bs = [] := List.length_eq_zero_iff.1 h0
    subst hb
    exact run_convert_bytes_nil (P := Tryd.prog) wr 27 5 Tryd.underlying27 Tryd.underlying5 0 0 9 Tryd.underlying9
  · subst hv
    exact run_convert_bytes_back (P := Tryd.prog) wr 27 9 5 ⟨g, 0, none⟩ cap bs Tryd.underlying27 Tryd.underlying5 Tryd.underlying9 (fun j hj => World.ownsRow.cells h (g := g) rfl j (.int .u8 (bs[j].toNat : Int)) (by simp [Lib.byteCells, hj]))
set_option maxRecDepth 100000 in
set_option maxHeartbeats 2000000 in
theorem Text_any (w : World) (l : List UInt8) (hl : l.length = 32) :
    Calls Tryd.prog 10 #[hval l] w fun e w' => ∃ T : ByteArray, T.data.toList = hex l ∧ e = .returned (.string T) ∧ Below w.heap.size w w' := by
  have hsz : Hid ((Tryd.prog.info? 29).map (·.size) = some (hcells l).size) := Lib.hid (by rw [hcells_size, hl]; exact info8T.out)
  have h0 : HM (w.alloc (.cells (hcells l) 29)) w.heap.size l := heap_alloc_new _ _
  go_enter Tryd.func10, Tryd.ntmps10
  go_wp2_with (refine wpList_load_row rfl 29 (.tmp 1) rfl w.heap.size rfl 29 (hcells l) (0, 0) _ h0 Tryd.underlying29 rfl hsz.out ?_)
  have hb : Below w.heap.size w (w.alloc (.cells (hcells l) 29)) := (Below.refl _ w).alloc (Nat.le_refl _) _
  have HS := Lib.hid (And.intro hl hb); clear hl hb hsz h0
  generalize w.alloc (.cells (hcells l) 29) = W at *
  obtain ⟨i0, hi, hz0, hz1, hz2⟩ := info_parts info8
  go_loopw [3, 7] (fun b i wr => ∃ (k : Nat) (v : Value) (kk : Int), b = v ∧ k ≤ 32 ∧ kk = (k : Nat) ∧ i = .int .i64 kk ∧ wr.ownsRow w.heap.size t8 1 v (hex (l.take k)).length (Lib.byteCells (hex (l.take k))) ∧ Hid (Below w.heap.size w wr)) (fun _ i _ => 32 - (intOf i).toNat)
  case atStart => exact ⟨0, _, 0, rfl, by omega, rfl, rfl, World.ownsRow_nil _ _ _ _, Lib.hid HS.out.2⟩
  case round =>
    obtain ⟨k, v, kk, rfl, hk, hkk, rfl, hown, hb⟩ := hrel
    by_cases hlt : k < 32
    · subst hkk
      have hix := fun W => index_agg W l HS.out.1 k hlt
      have hg := gb_lt l k
      obtain ⟨x, hx⟩ : ∃ x, gb l k = x := ⟨_, rfl⟩
      rw [hx] at hix hg
      obtain ⟨hi4, e1⟩ : ∃ d, x / 16 = d := ⟨_, rfl⟩
      obtain ⟨lo4, e2⟩ : ∃ d, x % 16 = d := ⟨_, rfl⟩
      have y1 : (x : Int).tdiv 16 = (hi4 : Int) := by rw [Int.tdiv_eq_ediv_of_nonneg (by omega)]; omega
      have y2 : (x : Int).tmod 16 = (lo4 : Int) := by rw [Int.tmod_eq_emod_of_nonneg (by omega)]; omega
      have y3 : (x : Int) / 16 = (hi4 : Int) := by omega
      have y4 : (x : Int) % 16 = (lo4 : Int) := by omega
      have v1 : IntKind.u8.wrap (hi4 : Int) = (hi4 : Int) := by rw [IntKind.wrap_u8']; omega
      have v2 : IntKind.u8.wrap (lo4 : Int) = (lo4 : Int) := by rw [IntKind.wrap_u8']; omega
      have i1 := fun W => index_dig W hi4 (by omega)
      have i2 := fun W => index_dig W lo4 (by omega)
      obtain ⟨da, hda⟩ : ∃ d, digs.getD hi4 0 = d := ⟨_, rfl⟩
      obtain ⟨db, hdb⟩ : ∃ d, digs.getD lo4 0 = d := ⟨_, rfl⟩
      rw [hda] at i1
      rw [hdb] at i2
      have HD := Lib.hid (And.intro hda hdb); clear hda hdb
      have HX := Lib.hid (And.intro hx (And.intro e1 (And.intro e2 (And.intro hlt hg)))); clear hx e1 e2 hg hk
      go_wp2
      have hh : hex (l.take (k+1)) = hex (l.take k) ++ [da, db] := by
        obtain ⟨e0, e1, e2, e3, e4⟩ := HX.out
        have hl := HS.out.1
        rw [List.take_add_one, List.getElem?_eq_getElem (by omega), Option.toList_some, hex_append]
        congr 1
        have : (l[k]'(by omega)).toNat = x := by rw [← e0]; unfold gb; rw [List.getD_eq_getElem?_getD, List.getElem?_eq_getElem (by omega)]; rfl
        simp only [hex, this, e1, e2, HD.out.1, HD.out.2]
      have hsz := hb.out.size
      have hlen : (hex (l.take k)).length ≤ 64 := by rw [hex_length, List.length_take]; have := HS.out.1; omega
      have hnews : ∀ j u, (Lib.byteCells [da, db])[j]? = some u → ((wr.drew).alloc (.cells #[.int .u8 (da.toNat : Nat), .int .u8 (db.toNat : Nat)] t8)).cell? ((⟨wr.heap.size, 0, none⟩ : Addr).add j) = some u := by
        intro j u hj
        match j, hj with
        | 0, hj => simp [Lib.byteCells] at hj; subst hj; show ((wr.drew).alloc _).cell? ⟨wr.drew.heap.size, 0, none⟩ = _; rw [World.cell?_alloc_new]; rfl
        | 1, hj => simp [Lib.byteCells] at hj; subst hj; show ((wr.drew).alloc _).cell? ⟨wr.drew.heap.size, 1, none⟩ = _; rw [World.cell?_alloc_new]; rfl
      have hone : ∀ u ∈ Lib.byteCells [da, db], u.oneCell' = true := by intro u hu; obtain ⟨x, _, rfl⟩ := List.mem_map.1 hu; rfl
      have hlen2 : (Lib.byteCells [da, db]).length = 2 * 1 := rfl
      have hb1 : (hex (l.take k)).length + 2 ≤ maxLen := by unfold maxLen; omega
      have hb2 : ((hex (l.take k)).length + 2) * 1 ≤ 140737488355328 := by omega
      have hb3 : w.heap.size ≤ ((wr.drew).alloc (.cells #[.int .u8 (da.toNat : Nat), .int .u8 (db.toNat : Nat)] t8)).heap.size := by simp; exact Nat.le_succ_of_le hsz
      have HA := Lib.hid (And.intro hnews (And.intro hone (And.intro hlen2 (And.intro hb1 (And.intro hb2 hb3))))); clear hnews hone hlen2 hb1 hb2 hb3
      have HH := Lib.hid (And.intro hh hsz); clear hh hsz hlen
      go_region_law ((refine step_append_lies _ rfl (.tmp 10) (.tmp 17) 27 rfl w.heap.size t8 i0 (.int .u8 0) 1 1 Tryd.underlying27 hi hz0 hz1 hz2 rfl (by decide) u3 (hex (l.take k)).length (Lib.byteCells (hex (l.take k))) (by simp [Act.eval]) (hown.drew.alloc _) ⟨wr.heap.size, 0, none⟩ 2 2 (Lib.byteCells [da, db]) (by simp [Act.eval]) HA.out.2.2.1 HA.out.1 HA.out.2.1 (by omega) HA.out.2.2.2.1 HA.out.2.2.2.2.1 HA.out.2.2.2.2.2 _ rfl ?_; intro g9 c9 w9 hown9 hgrow9 hat9 hlt9))
      all_goals
        go_wp2
        refine ⟨⟨k + 1, _, _, rfl, HX.out.2.2.2.1, by simp, rfl, ?_, Lib.hid ((hb.out.drew.alloc HH.out.2 _).grown hgrow9 (by simp; have := HH.out.2; omega) (fun k hk => (hown.lt k hk).1))⟩, by have := HX.out.2.2.2.1; simp [intOf]; omega⟩
        rw [HH.out.1, List.length_append, Lib.byteCells_append]
        exact hown9
    · obtain rfl : k = 32 := by omega
      obtain rfl : kk = 32 := by omega
      have hl : l.take 32 = l := List.take_of_length_le (by rw [HS.out.1]; exact Nat.le_refl _)
      rw [hl] at hown
      have hcv := conv_own hown
      clear hkk hlt hk hl hown
      go_wp2
      go_ret
      exact ⟨⟨(hex l).toArray⟩, rfl, rfl, hb.out⟩
end Go.Proofs.YtkniimhgipdbaaaDoor
