/-
  A range over a function whose iterator never ends by itself: the body leaves it, always by the same jump, before round N.
  The law stands on the kit's rule for ranges over functions, in the manner of its fourth law, with one premise more: the caller's invariant bounds the number of rounds.
-/
import Derived.RangeFuncFrom
import Derived.RangeFuncCalls
import Derived.Test.YtkniimhgipdbaaaDoorSumD
namespace Go.Proofs.YtkniimhgipdbaaaDoor
open Go.RowKit Go
/-- the word of an iterator without an end: where the rounds that go on are fewer than N, it returns behind a round that has said 'no more' -/
def SeqEnds {α : Type} (F : Fence) (n : Nat) (P : Program) (g : Nat) (lb : Array Value) (encs : α → Array Value) (Kp : World → World → Prop) (Sp : List α → Prop) (N : Nat) (w : World) : Prop :=
  ∀ (l : Nat) (J Jx : List α → World → Prop) (W : World), Below w.heap.size w W → (∀ pre W1, J pre W1 → pre.length < N) →
    (∀ pre x W1, J pre W1 → YieldAt F (n - 1) P l (encs x) W1 fun e W2 => (e = .returned (.bool true) ∧ J (pre ++ [x]) W2 ∧ Kp W1 W2) ∨ (e = .returned (.bool false) ∧ Jx (pre ++ [x]) W2)) →
    (∀ pre A B, J pre A → Below A.heap.size A B → J pre B) → (∀ pre A B, Jx pre A → Below A.heap.size A B → Jx pre B) →
    J [] W → CallsIn F n P g (#[.func (.yield l) #[] #[]] ++ lb) W fun e W2 => (∃ v, e = .returned v) ∧ ∃ pre, Sp pre ∧ Jx pre W2
/-- how the body is left -/
def endPost {α : Type} (Kp : World → World → Prop) (I Ix : List α → World → Prop) (id : Nat) (xs : List α) (W : World) : Exit → Act → World → Prop
  | .normal, _, W2 => KeepsOthers W W2 ∧ Kp W W2 ∧ I xs W2
  | .exit i, _, W2 => i = id ∧ KeepsOthers W W2 ∧ Ix xs W2
  | _, _, _ => False
variable {F : Fence} {n : Nat} {P : Program}
theorem own_below {β : Type} {B : Nat} {I : β → World → Prop} (h : OwnFrom B I) {s : β} {A C : World} (hs : I s A) (hb : Below A.heap.size A C) : I s C :=
  h s A C none hs (by first | exact hb.grown' | exact ⟨hb.os, hb.tape, hb.output, hb.size, fun k hk _ => hb.block k hk⟩) (fun r e => by cases e)
theorem range_ends {α : Type} {g : Operand} {ps : Array Tmp} {assign body : Code} {Q : Exit → Act → World → Prop} {a : Act} {w : World}
    (hro : F.round = none) (h1 : 1 ≤ n) {gf : Nat} {lb : Array Value} (hg : a.eval g = .func (.func gf) #[] lb) (hFg : F.fn gf) (eg : ∀ args w, (callFunc gf args).run P w = .ok (.enter gf args) w)
    {encs : α → Array Value} {Kp : World → World → Prop} {Sp : List α → Prop} {N : Nat} {w0 : World} (hseq : SeqEnds F (n - 1) P gf lb encs Kp Sp N w0)
    (hKt : ∀ {A B C : World}, Kp A B → Kp B C → Kp A C) (hKb : ∀ (W : World) (l : Nat) (o o2 : Obj), w.heap.size ≤ l → W.heap[l]? = some o → o.isCells = false → Kp W (W.putObj l o2))
    (hb0 : Below w0.heap.size w0 w) (hps : ∀ x, (encs x).size = ps.size)
    (I Ix : List α → World → Prop) (id : Nat) (hN : ∀ pre W, I pre W → pre.length < N)
    (hI : OwnFrom w.heap.size I) (hIx : OwnFrom w.heap.size Ix) (h0 : I [] w) (B : List α → α → Act → World → Prop) (hB : ∀ pre x a1, OwnFrom w.heap.size (fun (_ : Unit) W => B pre x a1 W))
    (hassign : ∀ (l : Nat) (pre : List α) (x : α) (W : World), I pre W → ∀ K : Act → World → Prop, (∀ a1 W1, KeepsOthers W W1 → Kp W W1 → B pre x a1 W1 → K a1 W1) →
      assign.wpIn (F.inRound l) (n - 1 - 1) P (Exit.then K (fun _ _ _ => False)) { tmps := (ps.zip (encs x)).foldl (fun t (p, v) => t.setIfInBounds p v) a.tmps, defers := [] } W)
    (hbody : ∀ (l : Nat) (pre : List α) (x : α) (a1 : Act) (W : World), B pre x a1 W → body.wpIn (F.inRound l) (n - 1 - 1) P (endPost Kp I Ix id (pre ++ [x]) W) a1 W)
    (hstop : ∀ (D : Nat) (pre : List α) (W : World), w.heap.size ≤ D → Sp pre → Ix pre W → W.heap[D]? = some (.deferred (some [])) → (Code.exit id).wpIn F n P Q { a with defers := { target := .collected D, args := #[] } :: a.defers } W) :
    (Code.rangeFunc g ps assign body).wpIn F n P Q a w := by
  refine wpIn_rangeFunc ?_
  intro fn hfn
  rw [hro]
  obtain ⟨q, hq⟩ : ∃ q, w.heap.size = q := ⟨_, rfl⟩
  have hq0 : w0.heap.size ≤ q := by rw [← hq]; exact hb0.size
  obtain ⟨rec, hrec⟩ : ∃ rec : LoopState → Option Code → Loop, rec = fun st pe => { state := st, pending := pe, fn, tmps := a.tmps, params := ps, assign, body, defers := q } := ⟨_, rfl⟩
  obtain ⟨V, hV⟩ : ∃ V, (w.alloc (.deferred (some []))).alloc (.loop (rec .ready none)) = V := ⟨_, rfl⟩
  have bV : Below q w V := by rw [← hV]; exact ((Below.refl q w).alloc (by omega) _).alloc (by simp; omega) _
  have lV : V.heap[q + 1]? = some (.loop (rec .ready none)) := by
    have := World.alloc_heap_new (w.alloc (.deferred (some []))) (.loop (rec .ready none))
    rwa [World.size_alloc, hq, hV] at this
  have dV : V.heap[q]? = some (.deferred (some [])) := by
    rw [← hV, ← hq]; exact (Below.heap_alloc _ _ _ (by simp)).trans (World.alloc_heap_new w _)
  have iV : I [] V := by rw [← hV]; exact hI.alloc _ (hI.alloc _ h0)
  -- the two facts of book-keeping beside an invariant
  have keep : ∀ {A B : World} {s : Loop}, A.heap[q + 1]? = some (.loop s) → A.heap[q]? = some (.deferred (some [])) → Below A.heap.size A B → B.heap[q + 1]? = some (.loop s) ∧ B.heap[q]? = some (.deferred (some [])) := fun hl hd hb =>
    ⟨(hb.block _ (Array.getElem?_eq_some_iff.1 hl).1).trans hl, (hb.block _ (Array.getElem?_eq_some_iff.1 hd).1).trans hd⟩
  have put : ∀ {W : World} {s : Loop} (o' : Obj), W.heap[q + 1]? = some (.loop s) → Kp W (W.putObj (q + 1) o') := fun o' hl =>
    hKb _ (q + 1) _ o' (by omega) hl rfl
  refine ⟨q + 1, [{ target := .collected q, args := #[] }], V, { target := .fn (.func gf) lb, args := #[.func (.yield (q + 1)) #[] #[]] }, V, gf, #[.func (.yield (q + 1)) #[] #[]] ++ lb, V, ?_, ?_, ?_, ?_, fun _ => h1, ?_⟩
  · rw [← hV, hrec, ← hq]; exact run_enterLoop_outer _ _ _ _ _
  · simp only [resolve, hg]
    simp [go_sem]
  · intro f' hf'; simp [Target.leads] at hf'; subst hf'; exact hFg
  · simp [invoke, go_sem, eg]
  refine (hseq (q + 1)
    (fun pre W => I pre W ∧ W.heap[q + 1]? = some (.loop (rec .ready none)) ∧ W.heap[q]? = some (.deferred (some [])))
    (fun pre W => Ix pre W ∧ W.heap[q + 1]? = some (.loop (rec .done (some (.exit id)))) ∧ W.heap[q]? = some (.deferred (some [])))
    V (hb0.trans (bV.mono hq0)) (fun pre W h => hN pre W h.1) ?_
    (fun pre A B h hb => ⟨own_below hI h.1 hb, keep h.2.1 h.2.2 hb⟩) (fun pre A B h hb => ⟨own_below hIx h.1 hb, keep h.2.1 h.2.2 hb⟩) ⟨iV, lV, dV⟩).mono ?_
  · -- a round
    rintro pre x W ⟨hi, hl, hd⟩
    have hy := run_yield (P := P) (args := encs x) hl (by rw [hrec]; exact hps x)
    rw [hrec] at hy
    refine ⟨fn, _, assign, body, hy, roundIn_of_wpIn hfn (hassign _ pre x W hi _ fun a1 W1 hk1 hp1 hB1 => ?_)⟩
    have hl1 := hk1.same _ _ hl rfl
    have hd1 := hk1.same _ _ hd rfl
    have hlt : q + 1 < W1.heap.size := (Array.getElem?_eq_some_iff.1 hl1).1
    refine ⟨_, run_beginRound hl1 (by rw [hrec]), ?_⟩
    obtain ⟨U, hU⟩ : ∃ U, W1.putObj (q + 1) (.loop { rec .ready none with state := .busy }) = U := ⟨_, rfl⟩
    have lU : U.heap[q + 1]? = some (.loop { rec .ready none with state := .busy }) := by rw [← hU]; exact World.putObj_heap_same hlt
    have dU : U.heap[q]? = some (.deferred (some [])) := by rw [← hU]; exact (World.putObj_heap_other (by omega)).trans hd1
    have bU : Kp W U := by rw [← hU]; exact hKt hp1 (put _ hl1)
    have iU : B pre x a1 U := by rw [← hU]; exact (hB pre x a1).putObj (s := ()) _ hB1 (by omega) hl1 rfl
    rw [hU]
    have fin : ∀ (jump : Option Code) (X : World), KeepsOthers U X →
        (Instr.endRound (q + 1) jump).run P X = .ok (.bool jump.isNone) (X.putObj (q + 1) (.loop (rec (if jump.isNone then .ready else .done) jump))) ∧
        X.heap[q + 1]? = some (.loop { rec .ready none with state := .busy }) ∧
        (X.putObj (q + 1) (.loop (rec (if jump.isNone then .ready else .done) jump))).heap[q + 1]? = some (.loop (rec (if jump.isNone then .ready else .done) jump)) ∧
        (X.putObj (q + 1) (.loop (rec (if jump.isNone then .ready else .done) jump))).heap[q]? = some (.deferred (some [])) := fun jump X hX => by
      have hl3 := hX.same _ _ lU rfl
      have := run_endRound (P := P) jump hl3
      rw [hrec] at this hl3 ⊢
      exact ⟨this, hl3, World.putObj_heap_same (Array.getElem?_eq_some_iff.1 hl3).1, (World.putObj_heap_other (by omega)).trans (hX.same _ _ dU rfl)⟩
    refine wpIn_mono (hbody _ pre x a1 U iU) ?_
    rintro e a3 X hp
    cases e with
    | normal =>
      obtain ⟨hX, bX, iX⟩ := hp
      obtain ⟨hr, l3, l4, d4⟩ := fin none X hX
      exact ⟨_, _, hr, .inl ⟨rfl, ⟨hI.putObj _ iX (by omega) l3 rfl, l4, d4⟩, hKt (hKt bU bX) (put _ l3)⟩⟩
    | exit i =>
      obtain ⟨rfl, hX, iX⟩ := hp
      obtain ⟨hr, l3, l4, d4⟩ := fin (some (.exit i)) X hX
      exact ⟨_, _, hr, .inr ⟨rfl, hIx.putObj _ iX (by omega) l3 rfl, l4, d4⟩⟩
    | ret => exact hp.elim
    | goto t => exact hp.elim
    | panic ch => exact hp.elim
    | outgrown => exact hp.elim
  · -- behind the iterator
    rintro e X ⟨⟨v, rfl⟩, pre, hSp, hi, hl, hd⟩
    exact ⟨some (.exit id), _, by have := run_endLoop (P := P) hl (by rw [hrec]; simp); rw [hrec] at this; exact this, hstop _ pre _ (by omega) hSp (hIx.putObj _ hi (by omega) hl rfl) ((World.putObj_heap_other (by omega)).trans hd)⟩
end Go.Proofs.YtkniimhgipdbaaaDoor
