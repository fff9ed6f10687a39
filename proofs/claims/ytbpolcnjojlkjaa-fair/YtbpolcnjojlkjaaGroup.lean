/- group: the text of the step R. -/
import Derived.Test.YtbpolcnjojlkjaaSingle
import Derived.Test.YtbpolcnjojlkjaaBits
import Derived.Test.YtbpolcnjojlkjaaFairM
namespace Go.Proofs.Ytbpolcnjojlkjaa
open Go.ChangeShapes Go.WideShapes Go.ChangeAt Go.RowKit
open Split (Pu Keeps byt byt_lt headM doM risM amongM scanF bodyM propM)
set_option linter.unusedVariables false
set_option linter.unusedSimpArgs false

/-- The bytes of the step, of the first k buckets. -/
def gN (l : List Bool) : Nat → List Int
  | 0 => [82]
  | k + 1 => if l.getD k false then gN l k ++ [97 + (k : Int)] else gN l k
def gC (l : List Bool) : Nat → Nat
  | 0 => 0
  | k + 1 => if l.getD k false then gC l k + 1 else gC l k
theorem gN_len (l : List Bool) : ∀ k, (gN l k).length = gC l k + 1
  | 0 => rfl
  | k + 1 => by
    have := gN_len l k
    unfold gN gC
    split
    · simp [this]
    · exact this
theorem gC_le (l : List Bool) : ∀ k, gC l k ≤ k
  | 0 => Nat.le_refl _
  | k + 1 => by
    have := gC_le l k
    unfold gC
    split <;> omega

def gOk (l : List Bool) : Bool :=
  let t := strOfNums (gN l 8)
  byt t 0 == 82 && (if 2 ≤ gC l 8 then decide (headM t 0 = (t.size, 0, true)) && decide (amongM t 1 (risM t 1) = l) else !(headM t 0).2.2)

set_option maxRecDepth 100000 in
theorem gOk_all : ∀ b0 b1 b2 b3 b4 b5 b6 b7 : Bool, gOk [b0, b1, b2, b3, b4, b5, b6, b7] = true := by decide +kernel

theorem gOk_of {l : List Bool} (h : l.length = 8) : gOk l = true := by
  match l, h with
  | [b0, b1, b2, b3, b4, b5, b6, b7], _ => exact gOk_all b0 b1 b2 b3 b4 b5 b6 b7

theorem R_text {l : List Bool} (h : l.length = 8) (h2 : 2 ≤ gC l 8) : checkE (strOfNums (gN l 8)) = 0 ∧ ∀ zs m, shrM (strOfNums (gN l 8)) zs m = propM (pu0 zs m) l := by
  have hg := gOk_of h
  have hz := str_size (gN l 8)
  have hn := gN_len l 8
  have hle := gC_le l 8
  unfold gOk at hg
  generalize strOfNums (gN l 8) = t at *
  dsimp only at hg
  rw [if_pos h2] at hg
  simp only [Bool.and_eq_true, beq_iff_eq, decide_eq_true_eq] at hg
  obtain ⟨b0, hh, ha⟩ := hg
  obtain ⟨h1, h3⟩ := one_step (by omega) (by omega) (by omega) hh
  refine ⟨h1, fun zs m => ?_⟩
  rw [h3 zs m]
  have e : Split.stM t 0 = ⟨82, 0, 0, l, 0⟩ := by
    unfold Split.stM
    rw [if_neg (by omega), if_neg (by omega), if_pos b0, Nat.zero_add, ha]
  rw [e]
  simp [doM]

theorem R_none {l : List Bool} (h : l.length = 8) (h2 : ¬ 2 ≤ gC l 8) : ¬ checkE (strOfNums (gN l 8)) = 0 := by
  have hg := gOk_of h
  have hz := str_size (gN l 8)
  have hn := gN_len l 8
  have hle := gC_le l 8
  unfold gOk at hg
  generalize strOfNums (gN l 8) = t at *
  dsimp only at hg
  rw [if_neg h2] at hg
  simp only [Bool.and_eq_true, beq_iff_eq, Bool.not_eq_true'] at hg
  obtain ⟨b0, hh⟩ := hg
  have e0 : (scanF t 0 0 (-1)).ok = false := by
    rw [Split.scan_eq t 0 0 (-1) (Nat.zero_le _)]
    unfold bodyM
    rw [if_pos ⟨by omega, by omega⟩, hh]
    simp
  unfold checkE
  rw [if_neg (by omega), if_neg (by rw [e0]; simp)]
  simp

theorem str82 : strOfNums [82] = ⟨#[82]⟩ := rfl

theorem and_lit (z : Int) (i : Nat) (hi : i < 8) : bits .and .i64 z (2 ^ i) = (((z % 18446744073709551616).toNat / 2 ^ i % 2 * 2 ^ i : Nat) : Int) := by
  have e : ∀ x : Nat, x &&& 2 ^ i = x / 2 ^ i % 2 * 2 ^ i := fun x => by
    have hb : x / 2 ^ i % 2 = (x.testBit i).toNat := by
      rw [Nat.testBit_eq_decide_div_mod_eq]
      have h := Nat.mod_two_eq_zero_or_one (x / 2 ^ i)
      rcases h with h | h <;> simp [h]
    apply Nat.eq_of_testBit_eq
    intro j
    rw [Nat.testBit_and, Nat.testBit_two_pow, hb]
    cases hx : x.testBit i
    · by_cases hij : i = j
      · subst hij; simp [hx]
      · simp [hij]
    · by_cases hij : i = j
      · subst hij; simp [hx, Nat.testBit_two_pow]
      · simp [hij, Nat.testBit_two_pow]
  have h1 : (BitVec.ofInt 64 z).toNat = (z % 18446744073709551616).toNat := by rw [BitVec.toNat_ofInt]; rfl
  have h2 : (BitVec.ofInt 64 (2 ^ i)).toNat = 2 ^ i := by
    match i, hi with
    | 0, _ => rfl
    | 1, _ => rfl
    | 2, _ => rfl
    | 3, _ => rfl
    | 4, _ => rfl
    | 5, _ => rfl
    | 6, _ => rfl
    | 7, _ => rfl
  show IntKind.i64.wrap ((BitVec.ofInt 64 z &&& BitVec.ofInt 64 (2 ^ i)).toNat : Int) = _
  rw [BitVec.toNat_and, h2, e, h1]
  refine wrap_small ?_ ?_
  · omega
  · have h3 : 2 ^ i ≤ 2 ^ 7 := Nat.pow_le_pow_right (by omega) (by omega)
    have h4 : (z % 18446744073709551616).toNat / 2 ^ i % 2 * 2 ^ i ≤ 1 * 2 ^ i := Nat.mul_le_mul_right _ (by omega)
    omega

theorem wrap_pow (i : Nat) (hi : i < 8) : wrap64 (2 ^ i) = 2 ^ i := by
  match i, hi with
  | 0, _ => exact IntWalk.wrap64_in (2 ^ 0) (by decide)
  | 1, _ => exact IntWalk.wrap64_in (2 ^ 1) (by decide)
  | 2, _ => exact IntWalk.wrap64_in (2 ^ 2) (by decide)
  | 3, _ => exact IntWalk.wrap64_in (2 ^ 3) (by decide)
  | 4, _ => exact IntWalk.wrap64_in (2 ^ 4) (by decide)
  | 5, _ => exact IntWalk.wrap64_in (2 ^ 5) (by decide)
  | 6, _ => exact IntWalk.wrap64_in (2 ^ 6) (by decide)
  | 7, _ => exact IntWalk.wrap64_in (2 ^ 7) (by decide)

theorem bit_key (z : Int) (i : Nat) (hi : i < 8) : (((z % 18446744073709551616).toNat / 2 ^ i % 2 : Nat) : Int) = z / 2 ^ i % 2 := by
  match i, hi with
  | 0, _ =>
    show (((z % 18446744073709551616).toNat / 1 % 2 : Nat) : Int) = z / 1 % 2
    omega
  | 1, _ =>
    show (((z % 18446744073709551616).toNat / 2 % 2 : Nat) : Int) = z / 2 % 2
    omega
  | 2, _ =>
    show (((z % 18446744073709551616).toNat / 4 % 2 : Nat) : Int) = z / 4 % 2
    omega
  | 3, _ =>
    show (((z % 18446744073709551616).toNat / 8 % 2 : Nat) : Int) = z / 8 % 2
    omega
  | 4, _ =>
    show (((z % 18446744073709551616).toNat / 16 % 2 : Nat) : Int) = z / 16 % 2
    omega
  | 5, _ =>
    show (((z % 18446744073709551616).toNat / 32 % 2 : Nat) : Int) = z / 32 % 2
    omega
  | 6, _ =>
    show (((z % 18446744073709551616).toNat / 64 % 2 : Nat) : Int) = z / 64 % 2
    omega
  | 7, _ =>
    show (((z % 18446744073709551616).toNat / 128 % 2 : Nat) : Int) = z / 128 % 2
    omega

theorem and_bit (z : Int) (i : Nat) (hi : i < 8) : (bits .and .i64 z (wrap64 (2 ^ i)) != 0) = bitM z i := by
  rw [wrap_pow i hi, and_lit z i hi]
  unfold bitM
  rw [← bit_key z i hi]
  have hp : 0 < 2 ^ i := Nat.two_pow_pos i
  rcases Nat.mod_two_eq_zero_or_one ((z % 18446744073709551616).toNat / 2 ^ i) with h | h
  · rw [h]; simp
  · rw [h, Nat.one_mul]
    have : ((2 ^ i : Nat) : Int) ≠ 0 := by omega
    exact bne_iff_ne.2 this

theorem bits_get (z : Int) (k : Nat) (hk : k < 8) : (bitsM z).getD k false = bitM z k := by
  simp only [bitsM, List.getD_eq_getElem?_getD, List.getElem?_map]
  rw [List.getElem?_range hk]
  rfl

set_option maxRecDepth 100000 in
set_option maxHeartbeats 4000000 in
theorem group_any (z : Int) (w : World) (hz : (Lit.int .i64 z).wf = true) :
    Calls Try.prog 29 #[.int .i64 z] w fun e w' => e = .returned (.tuple #[.string (strOfNums (gN (bitsM z) 8)), .int .i64 (gC (bitsM z) 8 : Nat)]) ∧ Below w.heap.size w w' := by
  go_enter Try.func29, Try.ntmps29
  go_wp2_with fail
  go_loopw [4, 5, 6] (fun ss nn ii wr => ∃ k : Nat, k ≤ 8 ∧ ii = .int .i64 k ∧ ss = .string (strOfNums (gN (bitsM z) k)) ∧ nn = .int .i64 (gC (bitsM z) k : Nat) ∧ Hid (Below w.heap.size w wr)) (fun _ _ ii _ => 8 - (intOf ii).toNat)
  case atStart => exact ⟨0, by omega, rfl, rfl, rfl, Below.refl _ _⟩
  case round =>
    obtain ⟨k, hk, rfl, rfl, rfl, hb⟩ := hrel
    have hcl := gC_le (bitsM z) k
    have hsz := str_size (gN (bitsM z) k)
    rw [gN_len] at hsz
    by_cases hlt : k < 8
    · have hbit := and_bit z k hlt
      have hget := bits_get z k hlt
      obtain ⟨v, hv⟩ : ∃ v, bits BinOp.and IntKind.i64 z (wrap64 (2 ^ k)) = v := ⟨_, rfl⟩
      rw [hv] at hbit
      cases hm : bitM z k
      · have e1 : gN (bitsM z) (k + 1) = gN (bitsM z) k := by
          rw [gN, hget, hm]; rfl
        have e2 : gC (bitsM z) (k + 1) = gC (bitsM z) k := by
          rw [gC, hget, hm]; rfl
        rw [hm] at hbit
        have HE := hide (And.intro e1 e2)
        clear e1 e2 hget hm
        go_wp2_with fail
        go_roundw
        case rel => exact ⟨k + 1, by omega, by go_num, by rw [(unhide HE).1], by rw [(unhide HE).2], hb⟩
        case measure => simp [intOf]; omega
      · have e1 : gN (bitsM z) (k + 1) = gN (bitsM z) k ++ [97 + (k : Int)] := by
          rw [gN, hget, hm]; rfl
        have e2 : gC (bitsM z) (k + 1) = gC (bitsM z) k + 1 := by
          rw [gC, hget, hm]; rfl
        rw [hm] at hbit
        have e3 : (k : Int) % 8 = k := by omega
        have hlet := fun w' => letter_any (k : Int) w'
        rw [e3] at hlet
        have HL := hide hlet
        have HE := hide (And.intro e1 e2)
        obtain ⟨X, hX⟩ : ∃ X, strOfNums (gN (bitsM z) k) = X := ⟨_, rfl⟩
        obtain ⟨Y, hY⟩ : ∃ Y, strOfNums [97 + (k : Int)] = Y := ⟨_, rfl⟩
        have hYs : Y.size = 1 := by rw [← hY, str_size]; rfl
        obtain ⟨Z, hZ⟩ : ∃ Z, X ++ Y = Z := ⟨_, rfl⟩
        have hZe : Hid (strOfNums (gN (bitsM z) (k + 1)) = Z) := by
          show _ = _
          rw [(unhide HE).1, ← str_app, hX, hY, hZ]
        obtain ⟨C, hC⟩ : ∃ C, gC (bitsM z) k = C := ⟨_, rfl⟩
        rw [hX] at hsz ⊢
        rw [hC] at hcl hsz ⊢
        have HC := hide hC
        rw [hY] at HL
        clear e1 e2 e3 hget hm hlet hX hY hC
        go_wp2_with fail
        refine (unhide HL _).mono ?_
        rintro e w2 ⟨rfl, hb2⟩
        have B2 := hide (below_step (unhide hb) hb2)
        clear hb2
        go_wp2_with fail
        go_roundw
        case rel => exact ⟨k + 1, by omega, by go_num, by rw [unhide hZe], by rw [(unhide HE).2, unhide HC]; go_num, B2⟩
        case measure => simp [intOf]; omega
    · have hk8 : k = 8 := by omega
      subst hk8
      obtain ⟨T, hT⟩ : ∃ T, strOfNums (gN (bitsM z) 8) = T := ⟨_, rfl⟩
      obtain ⟨C, hC⟩ : ∃ C, gC (bitsM z) 8 = C := ⟨_, rfl⟩
      rw [hT, hC]
      have HT := hide (And.intro hT hC)
      clear hT hC hcl hsz
      go_wp2_with fail
      go_ret2
      exact ⟨by rw [(unhide HT).1, (unhide HT).2]; rfl, unhide hb⟩
end Go.Proofs.Ytbpolcnjojlkjaa
