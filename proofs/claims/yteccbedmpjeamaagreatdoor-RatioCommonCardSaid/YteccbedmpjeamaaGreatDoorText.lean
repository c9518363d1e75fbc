/-
  The walk of strconv.FormatUint to the base 10.
  The walk of a strings.Builder's WriteString, at a builder of the caller's own.
  nat.Text of a number that one piece holds.
  nat.Parse of a text with a zero in front: nothing.
-/
import Derived.Test.YteccbedmpjeamaaGreatDoorShelf
import Derived.Test.YteccbedmpjeamaaGreatDoorBase
import Derived.Lib.ItoaMem
import Derived.Lib.UnsafeStr
import Derived.Lib.AppendStr
import Derived.Lib.Builder
import Derived.OwnWalk
import Derived.Test.YteccbedmpjeamaaGreatDoorDiv
import Derived.Test.YteccbedmpjeamaaGreatDoorGcd
import Derived.Laws.AppendOwn
namespace Go.Proofs.YteccbedmpjeamaaGreatDoor
open Go.RowKit Go.Sort NM
abbrev P10 (w : World) : Prop := Lib.TabIs Tryz.prog w "internal/strconv.uint64pow10" .u64 Lib.pow10Tab
theorem small_any (u : Nat) (h : u < 100) (w : World) :
    Calls Tryz.prog 114 #[.int .u64 u, .int .i64 10] w fun e w' => e = .returned (.string ⟨(Lib.decDigits u).toArray⟩) ∧ w' = w := by
  go_enter Tryz.func114, Tryz.ntmps114
  go_wp2_with fail
  refine (Tryz.internal_strconv_small u h _).mono ?_
  rintro e w1 ⟨rfl, rfl⟩
  go_wp2
  go_ret
  exact ⟨rfl, rfl⟩
theorem holds0 (w : World) (T : TypeId) (nd : Nat) (hs : nd ≤ 24) : Holds (fun (b : UInt8) => Value.int .u8 (b.toNat : Int)) (w.alloc (.cells Lib.zeros24 T)) w.heap.size 0 (Array.replicate nd (0 : UInt8)) := fun j hj => by
  have hj' : j < nd := by simpa using hj
  refine ⟨?_, World.frozen?_alloc_new _ _ _ _⟩
  rw [Nat.zero_add, World.cell?_alloc_new, Lib.zeros24_at _ (by omega), getElem!_pos _ j hj]
  simp
theorem below_put (w : World) (o : Obj) (dk : Array UInt8) (k : Nat) : Below w.heap.size w ((putRow (fun (b : UInt8) => Value.int .u8 (b.toNat : Int)) (w.alloc o) w.heap.size 0 dk).drewN k) := by
  rw [alloc_eq_grow]
  obtain ⟨os', h1, e⟩ := putRow_grow_new (fun (b : UInt8) => Value.int .u8 (b.toNat : Int)) w #[o] w.heap.size 0 dk (Nat.le_refl _)
  rw [e]
  exact ⟨rfl, rfl, rfl, by show w.heap.size ≤ (grow w os').heap.size; simp [grow], fun k hk => heap_grow_old w os' hk⟩
theorem arr24 : Tryz.prog.arrayLen 138 = 24 := by kernel_rfl
theorem slice24 (b n : Nat) (hn : n ≤ 24) (W : World) : (Instr.sliceAt 138 (.pointer (some ⟨b, 0, none⟩)) none (some (.int .i64 (n : Nat))) none).run Tryz.prog W = .ok (.slice (some ⟨b, 0, none⟩) n 24) W := by
  rw [run_sliceAt_array_h W 138 ⟨b, 0, none⟩ (by simp [Program.arrayLen, Program.elem, Tryz.underlying138]) .i64 (n : Int) (by omega) (by rw [arr24]; omega)]
  rw [arr24]
  go_simp
set_option maxRecDepth 100000 in
set_option maxHeartbeats 2000000 in
theorem large_any (u : Nat) (h : 100 ≤ u) (hu : u < 18446744073709551616) (w : World) (ht : P10 w) :
    Calls Tryz.prog 114 #[.int .u64 u, .int .i64 10] w fun e w' => e = .returned (.string ⟨(Lib.decDigits u).toArray⟩) ∧ Below w.heap.size w w' := by
  have hu1 : 1 ≤ u := by omega
  have hnd20 : Lib.nDigits u ≤ 20 := by have := Lib.numDigits_eq u hu1 hu; split at this <;> omega
  have hsl := fun W => slice24 w.heap.size (Lib.nDigits u) (by omega) W
  have hH0 := holds0 w 138 (Lib.nDigits u) (by omega)
  have hfmt := Tryz.internal_strconv_formatBase10 w.heap.size 0 24 u (Array.replicate (Lib.nDigits u) 0) (w.alloc (.cells Lib.zeros24 138)) hH0 (by rw [Array.size_replicate]; exact Lib.lt_pow_nDigits u) hu (by rw [Array.size_replicate]; omega)
  rw [Array.size_replicate] at hfmt
  have HH0 := Lib.hid hH0
  have hnum := Tryz.internal_strconv_numDigits u hu1 hu _ (Lib.tabIs_alloc ht (.cells Lib.zeros24 138))
  clear hu hH0
  go_enter Tryz.func114, Tryz.ntmps114
  go_wp2_with fail
  refine hnum.mono ?_
  rintro e w1 ⟨rfl, rfl⟩
  go_wp2_with fail
  refine hfmt.mono ?_
  rintro e w2 ⟨rfl, k, v', dk, rfl, hF⟩
  have hcv : (convert 57 9 (.slice (some ⟨w.heap.size, 0, none⟩) (Lib.nDigits u) 24)).run Tryz.prog ((putRow (fun (b : UInt8) => Value.int .u8 (b.toNat : Int)) (w.alloc (.cells Lib.zeros24 138)) w.heap.size 0 dk).drewN k) = .ok (.string ⟨(Lib.decDigits u).toArray⟩) ((putRow (fun (b : UInt8) => Value.int .u8 (b.toNat : Int)) (w.alloc (.cells Lib.zeros24 138)) w.heap.size 0 dk).drewN k) := by
    have h := run_convert_bytes_back (P := Tryz.prog) ((putRow (fun (b : UInt8) => Value.int .u8 (b.toNat : Int)) (w.alloc (.cells Lib.zeros24 138)) w.heap.size 0 dk).drewN k) 57 9 5 ⟨w.heap.size, 0, none⟩ 24 (Lib.decDigits u) Tryz.underlying57 Tryz.underlying5 Tryz.underlying9 (fun j hj => by
      rw [Lib.row_is_numeral hF j hj, Lib.add_plain, World.cell?_drewN]
      exact cell?_putRow (fun (b : UInt8) => Value.int .u8 (b.toNat : Int)) _ w.heap.size 0 _ dk HH0.out (by rw [hF.size, Array.size_replicate]) j (by rw [hF.size]; rw [Lib.decDigits_length] at hj; exact hj))
    rw [Lib.decDigits_length] at h
    exact h
  have hB : Below w.heap.size w ((putRow (fun (b : UInt8) => Value.int .u8 (b.toNat : Int)) (w.alloc (.cells Lib.zeros24 138)) w.heap.size 0 dk).drewN k) := below_put w _ dk k
  have HB := Lib.hid hB
  clear hB
  go_wp2_with fail
  go_ret
  exact ⟨rfl, HB.out⟩
end Go.Proofs.YteccbedmpjeamaaGreatDoor
namespace Go.Proofs.YteccbedmpjeamaaGreatDoor
open Go.RowKit NM
abbrev tB : TypeId := 100
abbrev t8 : TypeId := 5
theorem sizeB : (Tryz.prog.info? tB).map (·.size) = some 2 := by kernel_rfl
theorem liesB : liesAt Tryz.prog Tryz.prog.depth tB (2 / Tryz.prog.cellsOf tB) 0 tB 1 = true := by kernel_rfl
theorem info8 : (Tryz.prog.info? t8).map (fun i => (i.zero, i.size, i.bytes)) = some (some (.int .u8 0), 1, 1) := by kernel_rfl
set_option maxRecDepth 100000 in
set_option maxHeartbeats 1000000 in
theorem copyCheck_used (b : Nat) (w : World) (h0 : w.cell? ⟨b, 0, none⟩ = some (.pointer (some ⟨b, 0, none⟩))) :
    Calls Tryz.prog 115 #[.pointer (some ⟨b, 0, none⟩)] w fun e w' => e = .returned (.tuple #[]) ∧ w' = w := by
  obtain ⟨j, hj, _⟩ := Option.map_eq_some_iff.1 sizeB
  go_enter Tryz.func115, Tryz.ntmps115
  go_wp2
  rw [Lib.run_neq_ptr_same w _ Tryz.underlying98 hj]
  go_wp2
  go_end0
  exact ⟨rfl, rfl⟩
set_option maxRecDepth 100000 in
set_option maxHeartbeats 1000000 in
theorem copyCheck_fresh (b : Nat) (w : World) (h0 : w.cell? ⟨b, 0, none⟩ = some (.pointer none)) (hsh : w.shape? b = some (tB, 2)) (hfz : w.frozen? ⟨b, 0, none⟩ = false) :
    Calls Tryz.prog 115 #[.pointer (some ⟨b, 0, none⟩)] w fun e w' => e = .returned (.tuple #[]) ∧ w' = w.setCell ⟨b, 0, none⟩ (.pointer (some ⟨b, 0, none⟩)) := by
  obtain ⟨j, hj, hjs⟩ := Option.map_eq_some_iff.1 sizeB
  go_enter Tryz.func115, Tryz.ntmps115
  go_wp2
  rw [Lib.run_to_unsafe w ⟨b, 0, none⟩ Tryz.underlying98 Tryz.underlying142 hj (by rw [hjs]; decide) hsh (Nat.zero_lt_succ 1)]
  simp only [Result.andThen]
  rw [Oper.upon_value]
  go_wp2
  rw [run_callFunc_extern Tryz.func136 (by kernel_rfl) (by kernel_rfl) (by kernel_rfl) (e := Extern.AbiNoEscape.same) (by kernel_rfl), Lib.run_noEscape]
  simp only [Result.andThen]
  rw [Oper.upon_value]
  go_wp2
  rw [Lib.run_from_unsafe w ⟨b, 0, none⟩ Tryz.underlying142 Tryz.underlying98 hj hsh liesB]
  simp only [Result.andThen]
  rw [Oper.upon_value]
  go_wp2
  go_end0
  exact ⟨rfl, rfl⟩
theorem copyCheck_any (B b : Nat) (bs : List Value) (w : World) (h : Lib.IsBuilder tB t8 B b bs w) :
    Calls Tryz.prog 115 #[.pointer (some ⟨b, 0, none⟩)] w fun e w' => e = .returned (.tuple #[]) ∧ Lib.BuilderAt tB t8 B b (.pointer (some ⟨b, 0, none⟩)) bs w' ∧ Below B w w' := by
  rcases h with h | h
  · exact (copyCheck_fresh b w h.cell0 h.shape h.frozen0).mono fun e w' ⟨h1, h2⟩ => ⟨h1, by rw [h2]; exact h.used _, by rw [h2]; exact (Below.refl B w).setCell (p := ⟨b, 0, none⟩) h.1 _⟩
  · exact (copyCheck_used b w h.cell0).mono fun e w' ⟨h1, h2⟩ => ⟨h1, by rw [h2]; exact h, by rw [h2]; exact Below.refl B w⟩
def WroteQ (B b : Nat) (bs : List Value) (s : ByteArray) (w : World) (e : Ending) (w' : World) : Prop :=
  e = .returned (.tuple #[.int .i64 s.size, .nilIface]) ∧ Lib.BuilderAt tB t8 B b (.pointer (some ⟨b, 0, none⟩)) (bs ++ Lib.strCells s) w' ∧ Below B w w'
set_option maxRecDepth 100000 in
set_option maxHeartbeats 2000000 in
theorem WriteString_any (B b : Nat) (bs : List Value) (s : ByteArray) (w : World) (h : Lib.IsBuilder tB t8 B b bs w) (hlen : bs.length + s.size ≤ 140737488355328) (hBw : B ≤ w.heap.size) :
    Calls Tryz.prog 90 #[.pointer (some ⟨b, 0, none⟩), .string s] w (WroteQ B b bs s w) := by
  obtain ⟨i0, hi, hz0, hz1, hz2⟩ := info_parts info8
  go_enter Tryz.func90, Tryz.ntmps90
  go_wp2_with fail
  refine (copyCheck_any B b bs _ h).mono ?_
  rintro e w1 ⟨rfl, ⟨hB, v, hbk, hown, hne⟩, hb1⟩
  have c0 : w1.cell? ⟨b, 0, none⟩ = some (.pointer (some ⟨b, 0, none⟩)) := by rw [Lib.cell_of_heap hbk]; rfl
  have c1 : w1.cell? ⟨b, 1, none⟩ = some v := by rw [Lib.cell_of_heap hbk]; rfl
  have hz := hb1.size
  go_wp2_with (at_builtin; refine Lib.wpList_append_own_string _ rfl _ _ 57 9 rfl B t8 i0 Tryz.underlying57 Tryz.underlying9 hi hz0 hz1 hz2 _ _ _ rfl hown s rfl ?c3 ?c4 ?c5 ?_)
  case c3 => unfold maxLen; omega
  case c4 => omega
  case c5 => omega
  intro v' w2 hown' hgrow _
  have hlt : b < w1.heap.size := (Array.getElem?_eq_some_iff.1 hbk).1
  have hb2 : w2.heap[b]? = some (.cells #[.pointer (some ⟨b, 0, none⟩), v] tB (0, 0)) := (hgrow.block b hlt (fun e => hne e.symm)).trans hbk
  have d0 : w2.cell? ⟨b, 0, none⟩ = some (.pointer (some ⟨b, 0, none⟩)) := by rw [Lib.cell_of_heap hb2]; rfl
  have d1 : w2.cell? ⟨b, 1, none⟩ = some v := by rw [Lib.cell_of_heap hb2]; rfl
  have f1 : w2.frozen? ⟨b, 1, none⟩ = false := Lib.frozen_of_heap hb2 1
  obtain ⟨ao, n', cap, rfl⟩ : ∃ ao n' cap, v' = .slice ao n' cap := by
    rcases hown'.2 with ⟨hv, _⟩ | ⟨g, cap, cur, hv, _⟩
    · exact ⟨_, _, _, hv⟩
    · exact ⟨_, _, _, hv⟩
  go_wp2
  go_ret2
  refine ⟨rfl, ?_, ?_⟩
  · exact Lib.BuilderAt.put hB hb2 (bs' := bs ++ Lib.strCells s) (by simpa [Lib.strCells_length] using hown') (by decide)
  · exact (hb1.grown hgrow (by omega) (fun k hk => (hown.lt k hk).1)).setCell (p := ⟨b, 1, none⟩) hB _
end Go.Proofs.YteccbedmpjeamaaGreatDoor
namespace Go.Proofs.YteccbedmpjeamaaGreatDoor
open Go.RowKit NM
theorem info64 : (Tryz.prog.info? 95).map (fun i => (i.zero, i.size, i.bytes)) = some (some (.int .u64 0), 1, 8) := by kernel_rfl
theorem FormatUint_any (u : Nat) (hu : u < 18446744073709551616) (w : World) (ht : P10 w) :
    Calls Tryz.prog 89 #[.int .u64 u, .int .i64 10] w fun e w' => e = .returned (.string ⟨(Lib.decDigits u).toArray⟩) ∧ Below w.heap.size w w' := by
  have hC : Calls Tryz.prog 114 #[.int .u64 u, .int .i64 10] w fun e w' => e = .returned (.string ⟨(Lib.decDigits u).toArray⟩) ∧ Below w.heap.size w w' := by
    by_cases h : u < 100
    · exact (small_any u h w).mono fun e w' ⟨h1, h2⟩ => ⟨h1, by rw [h2]; exact Below.refl _ _⟩
    · exact large_any u (by omega) hu w ht
  clear hu
  go_enter Tryz.func89, Tryz.ntmps89
  go_wp2_with fail
  refine hC.mono ?_
  rintro e w1 ⟨rfl, b1⟩
  go_wp2
  go_ret
  exact ⟨rfl, b1⟩
theorem P10.below {B : Nat} {u w : World} (h : P10 u) (hb : Below B u w) (hB : 4 < B) : P10 w := by
  unfold P10 Lib.TabIs World.var? at *
  rw [show Tryz.prog.globalNamed "internal/strconv.uint64pow10" = some 4 by kernel_rfl] at h ⊢
  simp only [Option.bind_some] at h ⊢
  rw [hb.block _ hB]
  exact h
set_option maxRecDepth 100000 in
set_option maxHeartbeats 2000000 in
theorem Text_one (w : World) (a : ByteArray) (ha : a.size ≤ 4294967296) (h0 : sv a ≠ 0) (h1 : sv a < 10000000000000000000) (hg : 4 < w.heap.size) (ht : P10 w) :
    Calls Tryz.prog 59 #[.string a] w fun e w' => e = .returned (.string ⟨(Lib.decDigits (sv a)).toArray⟩) ∧ Below w.heap.size w w' := by
  obtain ⟨i0, hi, hz0, hz1, hz2⟩ := info_parts info64
  have hD : OneS a := by unfold OneS; show sv a < 18446744073709551616; omega
  go_enter Tryz.func59, Tryz.ntmps59
  go_wp2_with fail
  refine (words_any _ a (by omega)).mono ?_
  rintro e w1 ⟨X, oX, vX, tX, bX, lX, rfl⟩
  have dX := hD.words oX.wd tX vX h0
  obtain ⟨x, rfl⟩ := one_of dX
  have hx : x = sv a := by rw [← show wv [x] = sv a from vX]; simp [wv]
  have hx64 : x < 18446744073709551616 := oX.wd x (by simp)
  have ht1 := ht.below bX hg
  clear lX vX dX ht
  simp only [List.length_singleton] at oX ⊢
  have HX := Lib.hid (And.intro hx64 (And.intro h0 h1)); clear hx64 h0 h1
  have HXX := Lib.hid hx; clear hx
  go_wp2_with fail
  go_loopw [4, 3] (fun l p wr => (l = .slice (some ⟨w.heap.size, 0, none⟩) 1 1 ∧ p = .slice none 0 0 ∧ wr = w1) ∨ (l = .slice (some ⟨w.heap.size, 0, none⟩) 0 1 ∧ ∃ g cap, p = .slice (some ⟨g, 0, none⟩) 1 cap ∧ w1.heap.size ≤ g ∧ Row wr g 0 [x] ∧ g < wr.heap.size ∧ 1 ≤ cap ∧ Below w.heap.size w1 wr)) (fun l _ _ => lenOf l)
  case atStart => exact .inl ⟨rfl, rfl, rfl⟩
  case round =>
    rcases hrel with ⟨rfl, rfl, rfl⟩ | ⟨rfl, g, cap, rfl, g1, g2, g3, g4, g5⟩
    · have hdw : Calls Tryz.prog 88 #[.slice (some ⟨w.heap.size, 0, none⟩) 1 1, .int .u64 10000000000000000000] wr (DWQ [x] 10000000000000000000 w.heap.size 0 1 wr) := divideWord_any wr w.heap.size 0 1 10000000000000000000 [x] oX.row oX.wd (by simp) (Nat.le_refl _) (by omega) (by omega)
      go_wp2_with fail
      refine hdw.mono ?_
      clear hdw
      rintro e w2 ⟨Z, k, hA, hk, hT, hv, rfl⟩
      have hZl : Z.length = 1 := hA.len
      have hxl : x < 10000000000000000000 := by rw [HXX.out]; exact HX.out.2.2
      have hwx : wv [x] = x := by simp [wv]
      have hk0 : k = 0 := by
        rw [hwx, Nat.div_eq_of_lt hxl] at hv
        have h1 := (wv_zero_iff hT).1 hv
        have h2 := congrArg List.length h1
        have hk' : k ≤ 1 := hk
        rw [List.length_take, hZl, List.length_nil] at h2
        omega
      have hmod : wv [x] % 10000000000000000000 = x := by rw [hwx]; exact Nat.mod_eq_of_lt hxl
      rw [hmod]
      subst hk0
      clear hv hT hmod hxl hwx hk
      have hsz := hA.only.size
      have hos : w2.ownsRow wr.heap.size 95 1 (.slice none 0 0) 0 [] := World.ownsRow_nil _ _ _ _
      go_wp2_with (at_builtin; refine wpList_append_own _ rfl _ _ 91 rfl wr.heap.size 95 i0 (.int .u64 0) 1 8 Tryz.underlying91 hi hz0 hz1 hz2 rfl (by decide) _ _ _ rfl (hos.alloc _) ⟨w2.heap.size, 0, none⟩ 1 1 [.int .u64 x] rfl rfl ?c1 ?c2 ?c3 ?c4 ?c5 ?_)
      case c1 =>
        intro j u hj
        match j, hj with
        | 0, hj => simp at hj; subst hj; simp [Addr.add]
      case c2 => intro u hu; simp at hu; subst hu; rfl
      case c3 => unfold maxLen; omega
      case c4 => omega
      case c5 => simp; omega
      intro v' w3 hown' hgrow _
      obtain ⟨g, cap, cur, rfl, hg1, hg2, hg3, hg4, hg5, hg6⟩ : ∃ g cap cur, v' = .slice (some ⟨g, 0, none⟩) 1 cap ∧ wr.heap.size ≤ g ∧ w3.heap[g]? = some (.cells cur 95 (0, 0)) ∧ 1 ≤ cap ∧ cap ≤ maxLen ∧ cur.size = cap * 1 ∧ cur.toList.take (1 * 1) = [.int .u64 x] := by
        rcases hown'.2 with ⟨_, h⟩ | h
        · omega
        · exact h
      have hrow : Row w3 g 0 [x] := by
        refine ⟨fun j hj => ?_, fun j hj => Lib.frozen_of_heap hg2 _⟩
        obtain rfl : j = 0 := by simp at hj; exact hj
        have := World.ownsRow.cells hown' (g := g) rfl 0 (.int .u64 x) (by simp)
        exact this
      have hB3 : Below w.heap.size wr w3 := by
        exact ((hA.only.below (Nat.le_refl _) (Nat.le_of_lt oX.lt)).alloc (by have := oX.lt; omega) _).grown hgrow (by have := oX.lt; simp; omega) (fun k hk => by cases hk)
      have hgl : g < w3.heap.size := (Array.getElem?_eq_some_iff.1 hg2).1
      clear hg2 hg4 hg5 hg6 hown' hgrow
      go_wp2
      exact ⟨.inr ⟨rfl, g, cap, rfl, hg1, hrow, hgl, hg3, hB3⟩, by simp [lenOf]⟩
    · have hcell : (wr.alloc (.cells #[.pointer none, .slice none 0 0] 100)).cell? ⟨g, 0, none⟩ = some (.int .u64 x) := (World.cell?_alloc_past _ _ _ g3).trans (g2.cell 0 (by simp))
      have hF : ∀ W, P10 W → _ := fun W h => FormatUint_any x HX.out.1 W h
      have hal : Below wr.heap.size wr (wr.alloc (.cells #[.pointer none, .slice none 0 0] 100)) := (Below.refl _ wr).alloc (Nat.le_refl _) _
      have hb0 : (wr.alloc (.cells #[.pointer none, .slice none 0 0] 100)).heap[wr.heap.size]? = some (.cells #[.pointer none, .slice none 0 0] tB (0, 0)) := by unfold World.alloc; simp
      have htB : P10 (wr.alloc (.cells #[.pointer none, .slice none 0 0] 100)) := (ht1.below g5 hg).below hal (by have := g5.size; have := oX.lt; omega)
      have hlt : wr.heap.size < (wr.alloc (.cells #[.pointer none, .slice none 0 0] 100)).heap.size := by simp
      have hBw : Below w.heap.size w (wr.alloc (.cells #[.pointer none, .slice none 0 0] 100)) := (bX.trans g5).trans (hal.mono (by have := bX.size; have := g5.size; omega))
      generalize hb : wr.heap.size = b at *
      go_wp2_with fail
      generalize wr.alloc (.cells #[.pointer none, .slice none 0 0] 100) = wB at *
      have HT := Lib.hid htB
      clear htB hal
      go_loopw [7] (fun i W => (i = .int .i64 0 ∧ W = wB) ∨ (i = .int .i64 (-1) ∧ Lib.BuilderAt tB t8 b b (.pointer (some ⟨b, 0, none⟩)) (Lib.byteCells (Lib.decDigits x)) W ∧ Below b wB W)) (fun i _ => (intOf i + 1).toNat)
      case atStart => exact .inl ⟨rfl, rfl⟩
      case round =>
        rcases hrel with ⟨rfl, rfl⟩ | ⟨rfl, h1, h2⟩
        · go_wp2_with fail
          refine (hF _ HT.out).mono ?_
          rintro e w5 ⟨rfl, b5⟩
          have hb5 : Lib.BuilderAt tB t8 b b (.pointer none) [] w5 := ⟨Nat.le_refl _, .slice none 0 0, (b5.block b hlt).trans hb0, World.ownsRow_nil _ _ _ _, by simp [Value.ownBlock]⟩
          have hsz5 := b5.size
          have hds : (ByteArray.mk (Lib.decDigits x).toArray).size ≤ 20 := by
            show (Lib.decDigits x).toArray.size ≤ 20
            have h64 := HX.out.1
            have hx1 : 1 ≤ x := by have := HXX.out; have := HX.out.2.1; omega
            have h20 : Lib.nDigits x ≤ 20 := by have := Lib.numDigits_eq x hx1 h64; split at this <;> omega
            rw [List.size_toArray, Lib.decDigits_length]; exact h20
          have hW := WriteString_any b b [] ⟨(Lib.decDigits x).toArray⟩ w5 (.inl hb5) (by simp; omega) (by omega)
          have HW := Lib.hid hW
          clear hW hds
          go_wp2_with fail
          refine HW.out.mono ?_
          rintro e w6 ⟨rfl, hb6, b6⟩
          go_wp2
          refine ⟨.inr ⟨rfl, ?_, (b5.mono (Nat.le_of_lt hlt)).trans b6⟩, by simp [intOf]⟩
          rw [List.nil_append] at hb6
          exact hb6
        · have hx1 : 1 ≤ x := by have := HXX.out; have := HX.out.2.1; omega
          have hne : Lib.decDigits x ≠ [] := by
            intro h
            have h2 := congrArg List.length h
            rw [Lib.decDigits_length, List.length_nil] at h2
            have h3 := Lib.lt_pow_nDigits x
            rw [h2] at h3
            simp at h3
            omega
          have hS := Tryz.Builder_String b b (Lib.decDigits x) wr (.inr h1) hne
          have HS := Lib.hid hS
          clear hS
          go_wp2_with fail
          refine HS.out.mono ?_
          rintro e w6 ⟨rfl, b6⟩
          go_wp2
          go_ret
          refine ⟨?_, hBw.trans ((h2.trans b6).mono ?_)⟩
          · rw [← HXX.out]; rfl
          · have := bX.size; have := g5.size; omega
end Go.Proofs.YteccbedmpjeamaaGreatDoor
namespace Go.Proofs.YteccbedmpjeamaaGreatDoor
open Go.RowKit NM
def s007 : ByteArray := ⟨#[48, 48, 55]⟩
set_option maxRecDepth 100000 in
set_option maxHeartbeats 2000000 in
theorem decimal_007 (w : World) :
    Calls Tryz.prog 106 #[.string ⟨#[48, 48, 55]⟩] w fun e w' => e = .returned (.bool false) ∧ Below w.heap.size w w' := by
  go_enter Tryz.func106, Tryz.ntmps106
  go_wp2
  rw [run_bytes_of_string w 9 57 5 _ Tryz.underlying9 Tryz.underlying57 Tryz.underlying5]
  generalize hcap : grownCap w (ByteArray.mk #[48, 48, 55]).size 0 5 = cap
  have hcl : ∀ j, j < 3 → (w.drew.alloc (.cells (bytesRow ⟨#[48, 48, 55]⟩ cap) 5 ((bytesRow ⟨#[48, 48, 55]⟩ cap).size, (bytesRow ⟨#[48, 48, 55]⟩ cap).size + 1))).cell? ⟨w.heap.size, j, none⟩ = some (.int .u8 ([48, 48, 55].getD j 0 : Nat)) := by
    intro j hj
    have hh : (w.drew.alloc (.cells (bytesRow ⟨#[48, 48, 55]⟩ cap) 5 ((bytesRow ⟨#[48, 48, 55]⟩ cap).size, (bytesRow ⟨#[48, 48, 55]⟩ cap).size + 1))).heap[w.heap.size]? = some (.cells (bytesRow ⟨#[48, 48, 55]⟩ cap) 5 ((bytesRow ⟨#[48, 48, 55]⟩ cap).size, (bytesRow ⟨#[48, 48, 55]⟩ cap).size + 1)) := by
      show (w.heap.push _)[w.heap.size]? = _
      simp
    rw [Lib.cell_of_heap hh, bytesRow_at _ _ _ (show j < 3 from hj)]
    match j, hj with
    | 0, _ => rfl
    | 1, _ => rfl
    | 2, _ => rfl
  have hB : Below w.heap.size w (w.drew.alloc (.cells (bytesRow ⟨#[48, 48, 55]⟩ cap) 5 ((bytesRow ⟨#[48, 48, 55]⟩ cap).size, (bytesRow ⟨#[48, 48, 55]⟩ cap).size + 1))) := (Below.refl _ w).drew.alloc (Nat.le_refl _) _
  clear hcap
  generalize (w.drew.alloc (.cells (bytesRow ⟨#[48, 48, 55]⟩ cap) 5 ((bytesRow ⟨#[48, 48, 55]⟩ cap).size, (bytesRow ⟨#[48, 48, 55]⟩ cap).size + 1))) = w1 at *
  have c0 := hcl 0 (by omega)
  have c1 := hcl 1 (by omega)
  have c2 := hcl 2 (by omega)
  simp at c0 c1 c2
  clear hcl
  simp only [Result.andThen]
  rw [Oper.upon_value]
  go_wp2
  go_rounds 5
  all_goals go_wp2
  go_ret
  exact ⟨rfl, hB⟩
set_option maxRecDepth 100000 in
set_option maxHeartbeats 2000000 in
theorem Parse_007 (w : World) :
    Calls Tryz.prog 77 #[.string ⟨#[48, 48, 55]⟩] w fun e w' => e = .returned (.tuple #[.string ⟨#[]⟩, .bool false]) ∧ Below w.heap.size w w' := by
  go_enter Tryz.func77, Tryz.ntmps77
  go_wp2_with fail
  refine (decimal_007 w).mono ?_
  rintro e w1 ⟨rfl, b1⟩
  go_wp2
  go_ret2
  exact ⟨rfl, b1⟩
end Go.Proofs.YteccbedmpjeamaaGreatDoor
