/-
  The walk of the laws' sanity: the document's examples.
-/
import Derived.Test.YtdaicfgoahegpaaGreatDoorEVerify
import Derived.Test.YtdaicfgoahegpaaGreatDoorERead
namespace SH
/-- two blocks, so that the kernel computes each number once -/
def sha2E (b : List UInt8) : List UInt8 := frcS (blockE square ((b ++ pad b.length).take 64)) fun s => frcS (blockE s ((b ++ pad b.length).drop 64)) out
theorem sha_two (b : List UInt8) (h0 : 56 ≤ b.length) (h : b.length < 120) : sha b = sha2E b := by
  unfold sha sha2E
  rw [frcS_eq, frcS_eq, blockE_eq, blockE_eq]
  have h1 : (b.length + 72) / 64 = 2 := by omega
  have h2 : (b ++ pad b.length).length = 128 := by simp [pad, len8, zeros]; omega
  rw [h1]
  show out (block (block (blocks square _ 0) _) _) = _
  rw [blocks, Nat.mul_zero, List.drop_zero, List.take_of_length_le (l := (b ++ pad b.length).drop (64 * 1)) (by rw [List.length_drop]; omega)]
end SH
namespace Go.Proofs.YtdaicfgoahegpaaGreatDoor.E6
open Go.RowKit GM SH G4
/-- the digits of a number of at most k digits -/
def dgt : Nat → Nat → List UInt8
  | 0, _ => []
  | k+1, n => if n < 10 then [UInt8.ofNat (48 + n)] else dgt k (n / 10) ++ [UInt8.ofNat (48 + n % 10)]
theorem dgt_eq : ∀ (k n : Nat), 0 < k → n < 10^k → dgt k n = Lib.decDigits n
  | 0, _, h, _ => by omega
  | k+1, n, _, hn => by
    rw [dgt, Lib.decDigits]
    split
    · rfl
    · rename_i h
      have hk : 0 < k := by
        rcases Nat.eq_zero_or_pos k with h0 | h0
        · subst h0; simp at hn; omega
        · exact h0
      rw [dgt_eq k (n / 10) hk (by rw [Nat.pow_succ] at hn; omega)]
def twl (s : List UInt8) (l : List Nat) : List UInt8 := l.foldl (fun s n => s ++ [47] ++ dgt 20 n) s
theorem dcm_dgt (n : Nat) (h : n < 10^20) : (dcm (n : Int)).data.toList = dgt 20 n := by
  rw [dgt_eq 20 n (by decide) h]
  unfold dcm Lib.itoa
  rw [if_neg (by omega), Int.toNat_natCast]
theorem tw_list (l : List Nat) (hl : ∀ n ∈ l, n < 10^20) : ∀ s : ByteArray, (tw s (l.map (Nat.cast : Nat → Int))).data.toList = twl s.data.toList l := by
  induction l with
  | nil => intro s; rfl
  | cons a l ih =>
    intro s
    show (tw (s ++ (⟨#[47]⟩ : ByteArray) ++ dcm (a : Int)) (l.map (Nat.cast : Nat → Int))).data.toList = twl (s.data.toList ++ [47] ++ dgt 20 a) l
    rw [ih (fun n hn => hl n (by simp [hn]))]
    congr 1
    rw [ByteArray.data_append, Array.toList_append, ByteArray.data_append, Array.toList_append, dcm_dgt a (hl a (by simp))]
theorem sc_list (s : ByteArray) (l : List Nat) (hl : ∀ n ∈ l, n < 10^20) : sc (tw s (l.map (Nat.cast : Nat → Int))) = hnum (sha ([115, 47] ++ twl s.data.toList l)) % 1152921504606845789 := by
  unfold sc
  rw [ByteArray.data_append, Array.toList_append, tw_list l hl]
theorem k_is : nk 3 4 16 = 334738722642548386 := by
  show sc (tw wN ([3, 4, 16].map (Nat.cast : Nat → Int))) = _
  rw [sc_list _ _ (by decide), sha_small _ (by decide +kernel)]
  decide +kernel
theorem C_is : ch [4, 64, 16, 4096, 1107481360607456119, 412069305609881112] = 435937659163829742 := by
  show sc (tw wE ([4, 64, 16, 4096, 1107481360607456119, 412069305609881112].map (Nat.cast : Nat → Int))) = _
  rw [sc_list _ _ (by decide), sha_two _ (by decide +kernel) (by decide +kernel)]
  decide +kernel
theorem D_is : ch [4, 64, 16, 256, 1107481360607456119, 1874012426199476279] = 428074203899748599 := by
  show sc (tw wE ([4, 64, 16, 256, 1107481360607456119, 1874012426199476279].map (Nat.cast : Nat → Int))) = _
  rw [sc_list _ _ (by decide), sha_two _ (by decide +kernel) (by decide +kernel)]
  decide +kernel
theorem pp_nat (b e : Nat) (he : e < 2^64) : pp (b : Int) (e : Int) = ((NM.pw 2305843009213691579 64 b e : Nat) : Int) := gp_nat b e 2305843009213691579 (by decide) he
theorem pp_a : pp 4 3 = 64 := (pp_nat 4 3 (by decide)).trans (by decide +kernel)
theorem pp_b : pp 16 3 = 4096 := (pp_nat 16 3 (by decide)).trans (by decide +kernel)
theorem pp_c : pp 4 334738722642548386 = 1107481360607456119 := (pp_nat 4 334738722642548386 (by decide)).trans (by decide +kernel)
theorem pp_d : pp 16 334738722642548386 = 412069305609881112 := (pp_nat 16 334738722642548386 (by decide)).trans (by decide +kernel)
theorem mem_16 : mem 16 = true := by
  have h : gp 16 1152921504606845789 2305843009213691579 = 1 := (gp_nat 16 1152921504606845789 2305843009213691579 (by decide) (by decide)).trans (by decide +kernel)
  unfold mem; rw [h]; decide
theorem mem_256 : mem 256 = true := by
  have h : gp 256 1152921504606845789 2305843009213691579 = 1 := (gp_nat 256 1152921504606845789 2305843009213691579 (by decide) (by decide)).trans (by decide +kernel)
  unfold mem; rw [h]; decide
theorem ex_3 : ex 3 = 3 := ex_id 3 (by decide)
theorem pvC_is : pvC 3 4 16 334738722642548386 = 435937659163829742 := by
  unfold pvC
  rw [pp_a, pp_b, pp_c, pp_d, C_is]
theorem prC_is : prC 3 4 16 = 435937659163829742 := by
  unfold prC
  rw [if_pos ⟨mem_4, mem_16⟩, ex_3, k_is, pvC_is]
theorem prZ_is : prZ 3 4 16 = 489630195527191823 := by
  unfold prZ pvZ
  rw [if_pos ⟨mem_4, mem_16⟩, ex_3, k_is, pvC_is]
  decide +kernel
theorem vf_a : vf 4 64 16 4096 435937659163829742 489630195527191823 = true := by
  have := vf_holds 3 4 16 mem_4 mem_16
  rwa [ex_3, pp_a, pp_b, prC_is, prZ_is] at this
theorem sd_a : sd 4 64 435937659163829742 489630195527191823 = 1107481360607456119 := by
  have h1 : pp 4 489630195527191823 = ((NM.pw 2305843009213691579 64 4 489630195527191823 : Nat) : Int) := pp_nat 4 489630195527191823 (by decide)
  have h2 : pp 64 (1152921504606845789 - 435937659163829742) = ((NM.pw 2305843009213691579 64 64 716983845443016047 : Nat) : Int) := pp_nat 64 716983845443016047 (by decide)
  unfold sd
  rw [h1, h2]
  decide +kernel
theorem sd_b : sd 16 256 435937659163829742 489630195527191823 = 1874012426199476279 := by
  have h1 : pp 16 489630195527191823 = ((NM.pw 2305843009213691579 64 16 489630195527191823 : Nat) : Int) := pp_nat 16 489630195527191823 (by decide)
  have h2 : pp 256 (1152921504606845789 - 435937659163829742) = ((NM.pw 2305843009213691579 64 256 716983845443016047 : Nat) : Int) := pp_nat 256 716983845443016047 (by decide)
  unfold sd
  rw [h1, h2]
  decide +kernel
theorem vf_b : vf 4 64 16 256 435937659163829742 489630195527191823 = false := by
  unfold vf
  rw [sd_a, sd_b, D_is]
  have : ((435937659163829742 : Int) == 428074203899748599) = false := by decide
  rw [this, Bool.and_false]
theorem pr_zero : prC 3 0 16 = 0 ∧ prZ 3 0 16 = 0 := by
  unfold prC prZ
  rw [mem_0]; exact ⟨rfl, rfl⟩
theorem txt_b : txt 12 3 = ⟨#[49, 50, 46, 51]⟩ := by
  refine ba_ext ?_
  unfold txt
  rw [ByteArray.data_append, Array.toList_append, ByteArray.data_append, Array.toList_append, show (12 : Int) = ((12 : Nat) : Int) from rfl, show (3 : Int) = ((3 : Nat) : Int) from rfl, dcm_dgt _ (by decide), dcm_dgt _ (by decide)]
  decide +kernel
theorem nm_a : nmA ⟨#[49, 50, 46, 51]⟩ = 12 := by decide +kernel
theorem nm_b : nmB ⟨#[49, 50, 46, 51]⟩ = 3 := by decide +kernel
theorem nm_c : nmA ⟨#[48, 49, 50, 46, 51]⟩ = 12 := by decide +kernel
theorem nm_d : nmB ⟨#[48, 49, 50, 46, 51]⟩ = 3 := by decide +kernel
theorem ok_a : rdOk ⟨#[49, 50, 46, 51]⟩ = true := by unfold rdOk; rw [nm_a, nm_b, txt_b]; exact decide_eq_true rfl
theorem ok_c : rdOk ⟨#[48, 49, 50, 46, 51]⟩ = false := by unfold rdOk; rw [nm_c, nm_d, txt_b]; decide
theorem rdv_a : rdv ⟨#[49, 50, 46, 51]⟩ = pfv 12 3 := by unfold rdv; rw [ok_a, if_pos rfl, nm_a, nm_b]
theorem rdv_c : rdv ⟨#[48, 49, 50, 46, 51]⟩ = pfv 0 0 := by unfold rdv; rw [ok_c]; rfl
end Go.Proofs.YtdaicfgoahegpaaGreatDoor.E6
