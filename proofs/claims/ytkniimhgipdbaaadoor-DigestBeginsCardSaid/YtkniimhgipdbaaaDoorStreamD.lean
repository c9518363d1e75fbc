/-
  The walk of digest.Stream.
-/
import Derived.Test.YtkniimhgipdbaaaDoorStreamC
import Derived.Test.YtkniimhgipdbaaaDoorTextD
namespace Go.Proofs.YtkniimhgipdbaaaDoor
open Go.RowKit SH Go
theorem blocks_fn (w : World) (seed : ByteArray) :
    Calls Tryd.prog 11 #[.string seed] w fun e w' => e = .returned (.func (.func 17) #[] #[.pointer (some ⟨w.heap.size, 0, none⟩)]) ∧ w' = w.alloc (.cells #[.string seed] 9) := by
  go_enter Tryd.func11, Tryd.ntmps11
  go_wp2
  go_ret
  exact ⟨rfl, rfl⟩
/-- the cells of a world lie in another one as they lay -/
def AC (A B : World) : Prop := ∀ (g : Nat) (cs : Array Value) (t : TypeId) (fr : Nat × Nat), A.heap[g]? = some (Obj.cells cs t fr) → B.heap[g]? = some (Obj.cells cs t fr)
theorem ac_grown {A B : World} {row : Option Nat} (hg : A.grownBy B row) (hr : ∀ r, row = some r → ∃ o : Obj, A.heap[r]? = some o ∧ o.isCells = false) : AC A B := by
  intro g cs t fr h
  have hlt : g < A.heap.size := (Array.getElem?_eq_some_iff.1 h).1
  rw [hg.block g hlt (fun e => by
    obtain ⟨o, ho, hc⟩ := hr g e.symm
    rw [h] at ho
    cases ho
    simp [Obj.isCells] at hc)]
  exact h
theorem ac_below {A B : World} (h : Below A.heap.size A B) : AC A B := fun g cs t fr x => (h.block g (Array.getElem?_eq_some_iff.1 x).1).trans x
/-- the bytes of blocks, one behind the other -/
def flat (pre : List H32) : List UInt8 := (pre.map (·.1)).flatten
theorem flat_len : ∀ pre : List H32, (flat pre).length = 32 * pre.length
  | [] => rfl
  | x :: l => by
    have := flat_len l
    have h := x.2
    unfold flat at this ⊢
    simp only [List.map_cons, List.flatten_cons, List.length_append, List.length_cons, this, h]
    omega
theorem flat_snoc (pre : List H32) (x : H32) : flat (pre ++ [x]) = flat pre ++ x.1 := by simp [flat]
theorem owns_ac {A B : World} {base size n : Nat} {e : TypeId} {v : Value} {xs : List Value} (h : A.ownsRow base e size v n xs) (k : AC A B) : B.ownsRow base e size v n xs :=
  ⟨h.1, by
    rcases h.2 with h0 | ⟨g, cap, cur, h1, h2, h3, h4⟩
    · exact .inl h0
    · exact .inr ⟨g, cap, cur, h1, h2, k _ _ _ _ h3, h4⟩⟩
/-- the variables of Stream: the length, the text so far -/
structure ST (h : Nat) (n : Int) (bs : List UInt8) (v : Value) (W : World) : Prop where
  box : W.heap[h]? = some (.cells #[.int .i64 n] 3 (0, 0))
  txt : W.heap[h + 1]? = some (.cells #[v] 27 (0, 0))
  own : W.ownsRow (h + 3) t8 1 v bs.length (Lib.byteCells bs)
  lt : h + 3 ≤ W.heap.size
theorem ST.ac {h : Nat} {n : Int} {bs : List UInt8} {v : Value} {A B : World} (s : ST h n bs v A) (k : AC A B) (hs : A.heap.size ≤ B.heap.size) : ST h n bs v B :=
  ⟨k _ _ _ _ s.box, k _ _ _ _ s.txt, owns_ac s.own k, Nat.le_trans s.lt hs⟩
theorem ST.cells {h : Nat} {n : Int} {bs : List UInt8} {v : Value} {W : World} (s : ST h n bs v W) : W.cell? ⟨h, 0, none⟩ = some (.int .i64 n) ∧ W.cell? ⟨h + 1, 0, none⟩ = some v ∧ W.frozen? ⟨h + 1, 0, none⟩ = false :=
  ⟨by rw [cell_of_row _ _ 0 _ _ _ s.box]; rfl, by rw [cell_of_row _ _ 0 _ _ _ s.txt]; rfl, frozen_of_row _ _ 0 _ _ s.txt⟩
/-- a block is put behind the text -/
theorem ST.more {h : Nat} {n : Int} {bs : List UInt8} {v : Value} {W : World} (s : ST h n bs v W) (q : Nat) (x : List UInt8) (hx : x.length = 32) (hq : W.heap[q]? = some (Obj.cells (hcells x) 29 (0, 0))) (hL : bs.length ≤ 100000000) :
    ∃ g cap X, (Builtin.append_ #[27, 27] 27 #[v, .slice (some ⟨q, 0, none⟩) 32 32]).run Tryd.prog W = .ok (.slice (some ⟨g, 0, none⟩) (bs.length + 32) cap) X ∧
      X.cell? ⟨h, 0, none⟩ = some (.int .i64 n) ∧ X.cell? ⟨h + 1, 0, none⟩ = some v ∧ X.frozen? ⟨h + 1, 0, none⟩ = false ∧
      Hid (ST h n (bs ++ x) (.slice (some ⟨g, 0, none⟩) (bs.length + 32) cap) (X.setCell ⟨h + 1, 0, none⟩ (.slice (some ⟨g, 0, none⟩) (bs.length + 32) cap)) ∧
        KeepsOthers W (X.setCell ⟨h + 1, 0, none⟩ (.slice (some ⟨g, 0, none⟩) (bs.length + 32) cap)) ∧ Kp h W (X.setCell ⟨h + 1, 0, none⟩ (.slice (some ⟨g, 0, none⟩) (bs.length + 32) cap))) := by
  obtain ⟨i0, hi, hz0, hz1, hz2⟩ := info_parts info8
  have hnews : ∀ j u, (Lib.byteCells x)[j]? = some u → W.cell? ((⟨q, 0, none⟩ : Addr).add j) = some u := by
    intro j u hu
    have hadd : (⟨q, 0, none⟩ : Addr).add j = ⟨q, j, none⟩ := by unfold Addr.add; split <;> simp_all
    rw [hadd, cell_of_row _ _ j _ _ _ hq]
    unfold hcells
    simpa [Lib.byteCells] using hu
  have hone : ∀ u ∈ Lib.byteCells x, u.oneCell' = true := by intro u hu; obtain ⟨y, _, rfl⟩ := List.mem_map.1 hu; rfl
  obtain ⟨g, cap, X, hr, hown, hgrow, hat, hlt⟩ := run_append_lies (P := Tryd.prog) W 27 27 (h + 3) t8 i0 (.int .u8 0) 1 1 Tryd.underlying27 hi hz0 hz1 hz2 rfl (by decide) v bs.length (Lib.byteCells bs) s.own ⟨q, 0, none⟩ 32 32 (Lib.byteCells x)
    (by rw [byteCells_length, hx]) hnews hone (by omega) (by unfold maxLen; omega) (by omega) s.lt _ rfl
  have hlo : ∀ k, v.ownBlock = some k → h + 3 ≤ k := fun k hk => (s.own.lt k hk).1
  have hoc : ∀ k, v.ownBlock = some k → ∃ cur, W.heap[k]? = some (Obj.cells cur t8 (0, 0)) := by
    intro k hk
    rcases s.own.2 with ⟨rfl, _⟩ | ⟨g', cap', cur, rfl, _, hg', _⟩
    · simp [Value.ownBlock] at hk
    · simp [Value.ownBlock] at hk
      subst hk
      exact ⟨cur, hg'⟩
  have keep : ∀ k, k < W.heap.size → (∀ j, v.ownBlock = some j → k ≠ j) → X.heap[k]? = W.heap[k]? := fun k hk hne => hgrow.block k hk (fun e => hne k e.symm rfl)
  have hlt3 := s.lt
  have b1 : X.heap[h]? = _ := (keep h (by omega) (fun j hj => by have := hlo j hj; omega)).trans s.box
  have b2 : X.heap[h + 1]? = _ := (keep (h + 1) (by omega) (fun j hj => by have := hlo j hj; omega)).trans s.txt
  refine ⟨g, cap, X, hr, by rw [cell_of_row _ _ 0 _ _ _ b1]; rfl, by rw [cell_of_row _ _ 0 _ _ _ b2]; rfl, frozen_of_row _ _ 0 _ _ b2, Lib.hid ⟨⟨?_, ?_, ?_, ?_⟩, ?_, ?_, ?_⟩⟩
  · rw [heap_setCell_other _ _ _ _ (by simp)]; exact b1
  · exact heap_setCell_same _ _ 0 _ _ _ b2
  · rw [List.length_append, hx, Lib.byteCells_append]
    refine ⟨hown.1, ?_⟩
    rcases hown.2 with ⟨h0, _⟩ | ⟨g', cap', cur, e, h2, h3, h4⟩
    · cases h0
    · exact .inr ⟨g', cap', cur, e, h2, by rw [heap_setCell_other _ _ _ _ (by simp; omega)]; exact h3, h4⟩
  · have := hgrow.size; simp; omega
  · exact (KeepsOthers.of_grownBy hgrow (fun j o hj ho => by obtain ⟨cur, hc⟩ := hoc j hj; rw [hc] at ho; cases ho; rfl)).trans (KeepsOthers.setCell _ _ _)
  · exact ((Below.refl h W).grown hgrow (by omega) (fun k hk => by have := hlo k hk; omega)).setCell (p := ⟨h + 1, 0, none⟩) (by show h ≤ h + 1; omega) _
  · intro g' s' r' m' x'
    have x2 : X.heap[g']? = _ := (keep g' x'.lt (fun j hj e => by
      obtain ⟨cur, hc⟩ := hoc j hj
      unfold MH at x'
      rw [e, hc] at x'
      simp only [Option.some.injEq, Obj.cells.injEq] at x'
      exact absurd x'.2.1 (by decide))).trans x'
    unfold MH
    rw [heap_setCell_other _ _ _ _ ?_]
    · exact x2
    · intro e
      have e' : g' = h + 1 := e
      rw [e', b2] at x2
      simp only [Option.some.injEq, Obj.cells.injEq] at x2
      exact absurd x2.2.1 (by decide)
theorem stream_none (w : World) (seed : ByteArray) (n : Int) (hn : n < 1 ∨ 1048576 < n) :
    Calls Tryd.prog 7 #[.string seed, .int .i64 n] w fun e w' => e = .returned (.string ⟨#[]⟩) ∧ Below w.heap.size w w' := by
  have hb : Below w.heap.size w (w.alloc (.cells #[.int .i64 n] 3)) := (Below.refl _ w).alloc (Nat.le_refl _) _
  have HB := Lib.hid hb; clear hb
  go_enter Tryd.func7, Tryd.ntmps7
  by_cases h1 : n < 1
  · go_wp2
    go_ret
    exact ⟨rfl, HB.out⟩
  · have h2 : (1048576 : Int) < n := by omega
    go_wp2
    go_ret
    exact ⟨rfl, HB.out⟩
end Go.Proofs.YtkniimhgipdbaaaDoor
