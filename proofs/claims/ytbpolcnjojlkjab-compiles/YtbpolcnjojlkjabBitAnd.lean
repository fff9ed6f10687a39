/- A bit of a number, by and. -/
import Derived.Test.YtbpolcnjojlkjabBits
namespace Go.Proofs.Ytbpolcnjojlkjab
open Go.ChangeShapes Go.WideShapes Go.ChangeAt Go.RowKit
set_option linter.unusedVariables false
set_option linter.unusedSimpArgs false

theorem and_lit (z : Int) (i : Nat) (hi : i < 8) : bits .and .i64 z (2 ^ i) = (((z % 18446744073709551616).toNat / 2 ^ i % 2 * 2 ^ i : Nat) : Int) := by
  have e : ∀ x : Nat, x &&& 2 ^ i = x / 2 ^ i % 2 * 2 ^ i := fun x => by
    have hb : x / 2 ^ i % 2 = (x.testBit i).toNat := by
      rw [Nat.testBit_eq_decide_div_mod_eq]
      have h := Nat.mod_two_eq_zero_or_one (x / 2 ^ i)
      rcases h with h | h <;> simp [h]
    apply Nat.eq_of_testBit_eq
    intro j
    rw [Nat.testBit_and, Nat.testBit_two_pow, hb]
    cases hx : x.testBit i
    · by_cases hij : i = j
      · subst hij; simp [hx]
      · simp [hij]
    · by_cases hij : i = j
      · subst hij; simp [hx, Nat.testBit_two_pow]
      · simp [hij, Nat.testBit_two_pow]
  have h1 : (BitVec.ofInt 64 z).toNat = (z % 18446744073709551616).toNat := by rw [BitVec.toNat_ofInt]; rfl
  have h2 : (BitVec.ofInt 64 (2 ^ i)).toNat = 2 ^ i := by
    match i, hi with
    | 0, _ => rfl
    | 1, _ => rfl
    | 2, _ => rfl
    | 3, _ => rfl
    | 4, _ => rfl
    | 5, _ => rfl
    | 6, _ => rfl
    | 7, _ => rfl
  show IntKind.i64.wrap ((BitVec.ofInt 64 z &&& BitVec.ofInt 64 (2 ^ i)).toNat : Int) = _
  rw [BitVec.toNat_and, h2, e, h1]
  refine wrap_small ?_ ?_
  · omega
  · have h3 : 2 ^ i ≤ 2 ^ 7 := Nat.pow_le_pow_right (by omega) (by omega)
    have h4 : (z % 18446744073709551616).toNat / 2 ^ i % 2 * 2 ^ i ≤ 1 * 2 ^ i := Nat.mul_le_mul_right _ (by omega)
    omega

theorem wrap_pow (i : Nat) (hi : i < 8) : wrap64 (2 ^ i) = 2 ^ i := by
  match i, hi with
  | 0, _ => exact IntWalk.wrap64_in (2 ^ 0) (by decide)
  | 1, _ => exact IntWalk.wrap64_in (2 ^ 1) (by decide)
  | 2, _ => exact IntWalk.wrap64_in (2 ^ 2) (by decide)
  | 3, _ => exact IntWalk.wrap64_in (2 ^ 3) (by decide)
  | 4, _ => exact IntWalk.wrap64_in (2 ^ 4) (by decide)
  | 5, _ => exact IntWalk.wrap64_in (2 ^ 5) (by decide)
  | 6, _ => exact IntWalk.wrap64_in (2 ^ 6) (by decide)
  | 7, _ => exact IntWalk.wrap64_in (2 ^ 7) (by decide)

theorem bit_key (z : Int) (i : Nat) (hi : i < 8) : (((z % 18446744073709551616).toNat / 2 ^ i % 2 : Nat) : Int) = z / 2 ^ i % 2 := by
  match i, hi with
  | 0, _ =>
    show (((z % 18446744073709551616).toNat / 1 % 2 : Nat) : Int) = z / 1 % 2
    omega
  | 1, _ =>
    show (((z % 18446744073709551616).toNat / 2 % 2 : Nat) : Int) = z / 2 % 2
    omega
  | 2, _ =>
    show (((z % 18446744073709551616).toNat / 4 % 2 : Nat) : Int) = z / 4 % 2
    omega
  | 3, _ =>
    show (((z % 18446744073709551616).toNat / 8 % 2 : Nat) : Int) = z / 8 % 2
    omega
  | 4, _ =>
    show (((z % 18446744073709551616).toNat / 16 % 2 : Nat) : Int) = z / 16 % 2
    omega
  | 5, _ =>
    show (((z % 18446744073709551616).toNat / 32 % 2 : Nat) : Int) = z / 32 % 2
    omega
  | 6, _ =>
    show (((z % 18446744073709551616).toNat / 64 % 2 : Nat) : Int) = z / 64 % 2
    omega
  | 7, _ =>
    show (((z % 18446744073709551616).toNat / 128 % 2 : Nat) : Int) = z / 128 % 2
    omega

theorem and_bit (z : Int) (i : Nat) (hi : i < 8) : (bits .and .i64 z (wrap64 (2 ^ i)) != 0) = bitM z i := by
  rw [wrap_pow i hi, and_lit z i hi]
  unfold bitM
  rw [← bit_key z i hi]
  have hp : 0 < 2 ^ i := Nat.two_pow_pos i
  rcases Nat.mod_two_eq_zero_or_one ((z % 18446744073709551616).toNat / 2 ^ i) with h | h
  · rw [h]; simp
  · rw [h, Nat.one_mul]
    have : ((2 ^ i : Nat) : Int) ≠ 0 := by omega
    exact bne_iff_ne.2 this

theorem bits_get (z : Int) (k : Nat) (hk : k < 8) : (bitsM z).getD k false = bitM z k := by
  simp only [bitsM, List.getD_eq_getElem?_getD, List.getElem?_map]
  rw [List.getElem?_range hk]
  rfl
end Go.Proofs.Ytbpolcnjojlkjab
