/-
  Bytes appended one by one behind a converted string: the row's end may bear the conversion's mark.
-/
import Derived.Test.YtjfbpmpdcmealaaDoorAdd
import Derived.Lib.FrozenHead2
import Derived.Lib.ConvBytes
import Derived.Laws.AppendOwn
import Derived.Laws.Append
import Derived.OwnWalk
import Derived.Lib.FrozenHead
namespace Go.Proofs.YtjfbpmpdcmealaaDoor
open Go.RowKit SH
abbrev t8 : TypeId := 5
theorem info8 : (Tryd.prog.info? t8).map (fun i => (i.zero, i.size, i.bytes)) = some (some (.int .u8 0), 1, 1) := by kernel_rfl
/-- v holds the bytes bs in a row of the call's own, whose end beyond its room may be marked -/
def OwnT (w : World) (base : Nat) (v : Value) (bs : List UInt8) : Prop :=
  ∃ g cap cur fz, v = .slice (some ⟨g, 0, none⟩) bs.length cap ∧ base ≤ g ∧ w.heap[g]? = some (.cells cur t8 fz) ∧ (fz = (0, 0) ∨ cap ≤ fz.1) ∧ bs.length ≤ cap ∧ cap ≤ maxLen ∧ cur.size = cap ∧ cur.toList.take bs.length = Lib.byteCells bs
theorem OwnT.drew {w : World} {base : Nat} {v : Value} {bs : List UInt8} (h : OwnT w base v bs) : OwnT w.drew base v bs := h
theorem OwnT.alloc {w : World} {base : Nat} {v : Value} {bs : List UInt8} (h : OwnT w base v bs) (o : Obj) : OwnT (w.alloc o) base v bs := by
  obtain ⟨g, cap, cur, fz, rfl, h1, h2, h3⟩ := h
  exact ⟨g, cap, cur, fz, rfl, h1, by rw [heap_alloc_old _ _ (Array.getElem?_eq_some_iff.1 h2).1]; exact h2, h3⟩
theorem OwnT.mono {w : World} {base b : Nat} {v : Value} {bs : List UInt8} (h : OwnT w base v bs) (hb : b ≤ base) : OwnT w b v bs := by
  obtain ⟨g, cap, cur, fz, e, h1, h2⟩ := h
  exact ⟨g, cap, cur, fz, e, Nat.le_trans hb h1, h2⟩
theorem byteCells_length (bs : List UInt8) : (Lib.byteCells bs).length = bs.length := by simp [Lib.byteCells]
/-- a string's bytes, converted -/
theorem conv_bytes (w : World) (s : ByteArray) (hs : s.size ≤ maxLen) : ∃ v w', (convert 9 58 (.string s)).run Tryd.prog w = .ok v w' ∧ OwnT w' w.heap.size v s.data.toList ∧ Below w.heap.size w w' := by
  have h := run_bytes_of_string w 9 58 t8 s Tryd.underlying9 Tryd.underlying58 Tryd.underlying5
  obtain ⟨cap, hcap⟩ : ∃ cap, grownCap w s.size 0 t8 = cap := ⟨_, rfl⟩
  have hge := grownCap_ge w s.size 0 t8
  have hle := grownCap_le_maxLen w s.size 0 t8 hs
  rw [hcap] at h hge hle
  have hsz : (bytesRow s cap).size = cap := by
    unfold bytesRow
    rw [Array.size_append, Array.size_map, Array.size_replicate]
    show s.size + _ = _
    omega
  have hh : (w.drew.alloc (.cells (bytesRow s cap) t8 ((bytesRow s cap).size, (bytesRow s cap).size + 1))).heap[w.heap.size]? = some (.cells (bytesRow s cap) t8 ((bytesRow s cap).size, (bytesRow s cap).size + 1)) := by
    show (w.heap.push _)[w.heap.size]? = _
    simp
  refine ⟨_, _, h, ⟨w.heap.size, cap, _, _, rfl, Nat.le_refl _, hh, .inr (Nat.le_of_eq hsz.symm), hge, hle, hsz, ?_⟩, (Below.refl _ w).drew.alloc (Nat.le_refl _) _⟩
  unfold bytesRow
  rw [Array.toList_append, List.take_append_of_le_length (by simp)]
  rw [List.take_of_length_le (by simp)]
  simp [Lib.byteCells]
theorem append_byte (w : World) (base : Nat) (v : Value) (bs : List UInt8) (hown : OwnT w base v bs) (a : Addr) (c : Nat) (x : UInt8) (ha : w.cell? (a.add 0) = some (.int .u8 (x.toNat : Nat))) (h63 : bs.length + 1 ≤ 140737488355328) (hbase : base ≤ w.heap.size) :
    ∃ v' w', (Builtin.append_ #[58, 58] 58 #[v, .slice (some a) 1 c]).run Tryd.prog w = .ok v' w' ∧ OwnT w' base v' (bs ++ [x]) ∧ Below base w w' := by
  obtain ⟨i0, hi, hz0, hz1, hz2⟩ := info_parts info8
  obtain ⟨g, cap, cur, fz, rfl, hb, hg, hfz, hn, hm, hcs, ht⟩ := hown
  have hnews : ∀ j u, [Value.int .u8 (x.toNat : Nat)][j]? = some u → w.cell? (a.add j) = some u := by
    intro j u hj
    match j, hj with
    | 0, hj => simp at hj; subst hj; exact ha
  have hgl := (Array.getElem?_eq_some_iff.1 hg).1
  by_cases hroom : bs.length + 1 ≤ cap
  · have hf := run_firstCells_some (P := Tryd.prog) w 1 1 a 1 c [.int .u8 (x.toNat : Nat)] rfl hnews
    have hcell : w.cell? ⟨g, bs.length, none⟩ = some (cur[bs.length]'(by omega)) := by simp [World.cell?, hg]
    have hfro : w.frozen? ⟨g, bs.length, none⟩ = false := by
      obtain ⟨lo, hi'⟩ := fz
      simp only [World.frozen?, hg, Bool.and_eq_false_iff, decide_eq_false_iff_not]
      rcases hfz with h | h
      · simp only [Prod.mk.injEq] at h; right; omega
      · left; simp only at h; omega
    have hst : (storeCells ⟨g, bs.length, none⟩ [.int .u8 (x.toNat : Nat)]).run Tryd.prog w = .ok () (w.setCell ⟨g, bs.length, none⟩ (.int .u8 (x.toNat : Nat))) := by
      have h0 : (⟨g, bs.length, none⟩ : Addr).add 0 = ⟨g, bs.length, none⟩ := rfl
      simp [storeCells, h0, run_store Tryd.prog w _ (.int .u8 (x.toNat : Nat)) _ rfl, hcell, hfro]
    have hr : (Builtin.append_ #[58, 58] 58 #[.slice (some ⟨g, 0, none⟩) bs.length cap, .slice (some a) 1 c]).run Tryd.prog w = .ok (.slice (some ⟨g, 0, none⟩) (bs.length + 1) cap) (w.setCell ⟨g, bs.length, none⟩ (.int .u8 (x.toNat : Nat))) := by
      simp [Builtin.append_, run_underlying Tryd.underlying58, sizeOf, typeInfo, hi, hz1, Builtin.lenOf, hroom, hf, Addr.add_lit, hst]
    refine ⟨_, _, hr, ⟨g, cap, cur.setIfInBounds bs.length (.int .u8 (x.toNat : Nat)), fz, by rw [List.length_append]; rfl, hb, ?_, hfz, by rw [List.length_append]; exact hroom, hm, by rw [Array.size_setIfInBounds]; exact hcs, ?_⟩, (Below.refl _ w).setCell (p := ⟨g, bs.length, none⟩) hb _⟩
    · rw [setCell_eq_setRow w g bs.length cur t8 fz _ hg]
      exact setRow_heap w g cur _ t8 _ hg
    · have hl : bs.length < cur.toList.length := by simp; omega
      rw [Array.toList_setIfInBounds, List.length_append, List.length_singleton, List.take_add_one, List.getElem?_set_self hl, List.take_set_of_le (Nat.le_refl _), ht]
      simp [Lib.byteCells]
  · have hcap : cap = bs.length := by omega
    have holds : ∀ j u, (Lib.byteCells bs)[j]? = some u → w.cell? ((⟨g, 0, none⟩ : Addr).add j) = some u := by
      intro j u hu
      have hadd : (⟨g, 0, none⟩ : Addr).add j = ⟨g, j, none⟩ := by unfold Addr.add; split <;> simp_all
      rw [hadd, cell_of_row w g j cur t8 fz hg]
      rw [← ht, List.getElem?_take] at hu
      split at hu
      · simpa using hu
      · cases hu
    have hr := run_append_grow (P := Tryd.prog) w 58 58 t8 i0 (.int .u8 0) Tryd.underlying58 hi hz0 ⟨g, 0, none⟩ bs.length cap (Lib.byteCells bs) (by rw [byteCells_length, hz1, Nat.mul_one]) holds a 1 c [.int .u8 (x.toNat : Nat)] (by rw [hz1]; rfl) hnews (by omega) (by omega) (by rw [hz2]; exact growslice_fits (by omega) (by omega))
    have hge := grownCap_ge w (bs.length + 1) cap t8
    have hle := grownCap_le_maxLen w (bs.length + 1) cap t8 (by unfold maxLen; omega)
    refine ⟨_, _, hr, ⟨w.heap.size, _, _, (0, 0), by rw [List.length_append]; rfl, hbase, heap_alloc_new w.drew _, .inl rfl, by rw [List.length_append]; exact hge, hle, ?_, ?_⟩, ((Below.refl _ w).drew).alloc hbase _⟩
    · simp only [Array.size_append, List.size_toArray, size_zeroCells]
      simp [byteCells_length, Value.cells]
      omega
    · have e : ∀ (A Z : List Value) (u : Value) (n : Nat), A.length = n → (A ++ u :: Z).take (n + 1) = A ++ [u] := by
        intro A Z u n hA
        rw [show A ++ u :: Z = (A ++ [u]) ++ Z by simp, List.take_append_of_le_length (by simp; omega), List.take_of_length_le (by simp; omega)]
      simp [Lib.byteCells]
      exact e _ _ _ _ (by simp)
theorem wpList_append_byte {ops : Array Oper} {rest : List Oper} {o : Oper} {a : Act} {w : World} {Q : Exit → Act → World → Prop} (hgd : o.guard = none) (s x : Operand)
    (ho : o.op = .call { callee := .builtin .append, args := #[s, x], argTypes := #[58, 58] }) (hty : o.type = 58) (base : Nat) (v : Value) (bs : List UInt8) (hs : a.eval s = v) (hown : OwnT w base v bs)
    (ad : Addr) (c : Nat) (b : UInt8) (hx : a.eval x = .slice (some ad) 1 c) (hnew : w.cell? (ad.add 0) = some (.int .u8 (b.toNat : Nat))) (h63 : bs.length + 1 ≤ 140737488355328) (hbase : base ≤ w.heap.size)
    (h : ∀ v' w', OwnT w' base v' (bs ++ [b]) → Below base w w' → wpList Tryd.prog ops Q rest (a.put o.dst v') w') : wpList Tryd.prog ops Q (o :: rest) a w := by
  refine wpList_plain hgd fun K hK => ?_
  obtain ⟨v', w', hr, h2, h3⟩ := append_byte w base v bs hown ad c b hnew h63 hbase
  unfold Oper.wp execOp
  simp only [ho, hty, resolve, invoke, builtin, Sem.run_bind, Sem.run_pure, Result.andThen_ok, List.map_toArray, List.map_cons, List.map_nil, hs, hx, hr]
  exact hK _ _ (h v' w' h2 h3)
/-- the bytes of a row, as a string -/
theorem conv_back {w : World} {base : Nat} {v : Value} {bs : List UInt8} (h : OwnT w base v bs) : (convert 58 9 v).run Tryd.prog w = .ok (.string ⟨bs.toArray⟩) w := by
  obtain ⟨g, cap, cur, fz, rfl, hb, hg, hfz, hn, hm, hcs, ht⟩ := h
  refine run_convert_bytes_back (P := Tryd.prog) w 58 9 t8 ⟨g, 0, none⟩ cap bs Tryd.underlying58 Tryd.underlying5 Tryd.underlying9 (fun j hj => ?_)
  have hadd : (⟨g, 0, none⟩ : Addr).add j = ⟨g, j, none⟩ := by unfold Addr.add; split <;> simp_all
  rw [hadd, cell_of_row w g j cur t8 fz hg]
  have : (cur.toList.take bs.length)[j]? = some (.int .u8 (bs[j].toNat : Int)) := by rw [ht]; simp [Lib.byteCells, hj]
  rw [List.getElem?_take, if_pos hj] at this
  simpa using this
end Go.Proofs.YtjfbpmpdcmealaaDoor
