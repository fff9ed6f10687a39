/- Codes: Bits, BitAnd, Decode -/
import Derived.Test.YtmdjdpofpkgffabReaders
import Derived.Test.YtmdjdpofpkgffabPaysM

/- split's bucketsOf. -/
namespace Go.Proofs.Ytmdjdpofpkgffab
open Go.ChangeShapes Go.WideShapes Go.ChangeAt Go.RowKit
set_option linter.unusedVariables false
set_option linter.unusedSimpArgs false

def bitM (a : Int) (j : Nat) : Bool := a / 2 ^ j % 2 == 1
def bfill (a : Int) (k : Nat) : List Bool := (List.range 8).map fun j => if j < k then bitM a j else false
/-- The buckets whose bits are in a number. -/
def bitsM (a : Int) : List Bool := (List.range 8).map fun j => bitM a j

theorem bfill_len (a : Int) (k : Nat) : (bfill a k).length = 8 := by simp [bfill]
theorem bfill_zero (a : Int) : bfill a 0 = Split.none8 := by
  simp [bfill, Split.none8, List.map_const']
theorem bfill_all (a : Int) : bfill a 8 = bitsM a := by
  unfold bfill bitsM
  apply List.map_congr_left
  intro j hj
  rw [if_pos (by simpa using hj)]
theorem bfill_set (a : Int) (k : Nat) (hk : k < 8) : (bfill a k).set k (bitM a k) = bfill a (k + 1) := by
  apply List.ext_getElem?
  intro j
  rw [List.getElem?_set]
  simp only [bfill, List.getElem?_map, List.length_map, List.length_range]
  by_cases h1 : k = j
  · subst h1
    rw [if_pos rfl, if_pos hk, List.getElem?_range hk]
    simp
  · rw [if_neg h1]
    by_cases h : j < 8
    · rw [List.getElem?_range h]
      simp only [Option.map_some]
      by_cases h2 : j < k
      · rw [if_pos h2, if_pos (by omega)]
      · rw [if_neg h2, if_neg (by omega)]
    · rw [List.getElem?_eq_none (by simp; omega)]; rfl

theorem half_next (a : Int) (k : Nat) : a / 2 ^ (k + 1) = a / 2 ^ k / 2 := by
  rw [Int.pow_succ, Int.ediv_ediv_of_nonneg (Int.pow_nonneg (by omega))]
theorem half_bd {a : Int} (h0 : 0 ≤ a) (h1 : a ≤ 255) (k : Nat) : 0 ≤ a / 2 ^ k ∧ a / 2 ^ k ≤ 255 := by
  induction k with
  | zero => simp; omega
  | succ k ih => rw [half_next]; omega

set_option maxHeartbeats 2000000 in
theorem bucketsOf_any (a : Int) (h0 : 0 ≤ a) (h1 : a ≤ 255) (w : World) :
    Calls Try.prog 90 #[.int .i64 a] w fun e w' => e = .returned (.agg ((bitsM a).map Value.bool).toArray) ∧ Below w.heap.size w w' := by
  go_enter Try.func90, Try.ntmps90
  go_wp2_with fail
  go_loopw [0, 4] (fun bb ii wr => ∃ k : Nat, k ≤ 8 ∧ ii = .int .i64 k ∧ bb = .int .i64 (a / 2 ^ k) ∧ Hid (Bl wr (w.heap.size + 1) (bfill a k)) ∧ Hid (Bl wr w.heap.size Split.none8) ∧ Hid (Below w.heap.size w wr)) (fun _ ii _ => 8 - (intOf ii).toNat)
  case atStart =>
    refine ⟨0, by omega, rfl, by simp, ?_, ?_, ?_⟩
    · rw [bfill_zero]
      have := bl_new (w.alloc (.cells #[.bool false, .bool false, .bool false, .bool false, .bool false, .bool false, .bool false, .bool false] 108))
      show Bl _ _ _
      simpa using this
    · exact (bl_new w).grown (World.grownBy_alloc _ _ none) (by simp)
    · exact ((Below.refl _ _).alloc (Nat.le_refl _) _).alloc (by simp) _
  case round =>
    obtain ⟨k, hk, rfl, rfl, hB, hB0, hb⟩ := hrel
    have hq := half_bd h0 h1 k
    have hn := half_next a k
    have hbit : bitM a k = (a / 2 ^ k % 2 == 1) := rfl
    obtain ⟨q, hqe⟩ : ∃ q, a / 2 ^ k = q := ⟨_, rfl⟩
    rw [hqe] at hq hn hbit ⊢
    clear hqe
    have HN := hide hn
    have HBIT := hide hbit
    clear hn hbit
    have hzr : w.heap.size + 1 < wr.heap.size := cell_lt (unhide hB).2
    by_cases hlt : k < 8
    · have cb := (unhide hB).cell k (by omega)
      have fb := (unhide hB).fr k
      go_wp2_with fail
      go_roundw
      case rel =>
        refine ⟨k + 1, by omega, by go_num, ?_, ?_, ?_, ?_⟩
        · rw [unhide HN]
        · show Bl _ _ _
          rw [← bfill_set a k hlt, unhide HBIT]
          exact (unhide hB).set k _
        · exact (unhide hB0).grown (grown_set (grown_refl _ _) k _) (by simp)
        · exact (unhide hb).setCell (p := ⟨w.heap.size + 1, k, none⟩) (by simp) _
      case measure => simp [intOf]; omega
    · have hk8 : k = 8 := by omega
      subst hk8
      rw [bfill_all] at hB
      have hml := (unhide hB).1
      have hBB := unhide hB
      obtain ⟨m, hm⟩ : ∃ m, bitsM a = m := ⟨_, rfl⟩
      rw [hm] at hml hBB
      have HM := hide hm
      clear hB hm
      match m, hml with
      | [m0, m1, m2, m3, m4, m5, m6, m7], _ =>
        have d0 := hBB.cell 0 (by omega)
        have d1 := hBB.cell 1 (by omega)
        have d2 := hBB.cell 2 (by omega)
        have d3 := hBB.cell 3 (by omega)
        have d4 := hBB.cell 4 (by omega)
        have d5 := hBB.cell 5 (by omega)
        have d6 := hBB.cell 6 (by omega)
        have d7 := hBB.cell 7 (by omega)
        simp at d0 d1 d2 d3 d4 d5 d6 d7
        have r0 := (unhide hB0).cell 0 (by omega)
        have g0 := (unhide hB0).fr 0
        have r1 := (unhide hB0).cell 1 (by omega)
        have g1 := (unhide hB0).fr 1
        have r2 := (unhide hB0).cell 2 (by omega)
        have g2 := (unhide hB0).fr 2
        have r3 := (unhide hB0).cell 3 (by omega)
        have g3 := (unhide hB0).fr 3
        have r4 := (unhide hB0).cell 4 (by omega)
        have g4 := (unhide hB0).fr 4
        have r5 := (unhide hB0).cell 5 (by omega)
        have g5 := (unhide hB0).fr 5
        have r6 := (unhide hB0).cell 6 (by omega)
        have g6 := (unhide hB0).fr 6
        have r7 := (unhide hB0).cell 7 (by omega)
        have g7 := (unhide hB0).fr 7
        simp [Split.none8] at r0 r1 r2 r3 r4 r5 r6 r7
        clear hBB
        go_wp2_with fail
        refine bodyPost_ret (v := .agg #[.bool m0, .bool m1, .bool m2, .bool m3, .bool m4, .bool m5, .bool m6, .bool m7]) (by simp [results, Try.results90, go_sem, r0, r1, r2, r3, r4, r5, r6, r7]) rfl ?_
        rw [unhide HM]
        refine ⟨rfl, (unhide hb).trans (below_of_grown (r := some w.heap.size) ?_ (by omega) (fun k hk => by simp at hk; omega))⟩
        iterate 8 refine grown_set ?_ _ _
        exact grown_refl _ _
end Go.Proofs.Ytmdjdpofpkgffab

/- A bit of a number, by and. -/
namespace Go.Proofs.Ytmdjdpofpkgffab
open Go.ChangeShapes Go.WideShapes Go.ChangeAt Go.RowKit
set_option linter.unusedVariables false
set_option linter.unusedSimpArgs false

theorem and_lit (z : Int) (i : Nat) (hi : i < 8) : bits .and .i64 z (2 ^ i) = (((z % 18446744073709551616).toNat / 2 ^ i % 2 * 2 ^ i : Nat) : Int) := by
  have e : ∀ x : Nat, x &&& 2 ^ i = x / 2 ^ i % 2 * 2 ^ i := fun x => by
    have hb : x / 2 ^ i % 2 = (x.testBit i).toNat := by
      rw [Nat.testBit_eq_decide_div_mod_eq]
      have h := Nat.mod_two_eq_zero_or_one (x / 2 ^ i)
      rcases h with h | h <;> simp [h]
    apply Nat.eq_of_testBit_eq
    intro j
    rw [Nat.testBit_and, Nat.testBit_two_pow, hb]
    cases hx : x.testBit i
    · by_cases hij : i = j
      · subst hij; simp [hx]
      · simp [hij]
    · by_cases hij : i = j
      · subst hij; simp [hx, Nat.testBit_two_pow]
      · simp [hij, Nat.testBit_two_pow]
  have h1 : (BitVec.ofInt 64 z).toNat = (z % 18446744073709551616).toNat := by rw [BitVec.toNat_ofInt]; rfl
  have h2 : (BitVec.ofInt 64 (2 ^ i)).toNat = 2 ^ i := by
    match i, hi with
    | 0, _ => rfl
    | 1, _ => rfl
    | 2, _ => rfl
    | 3, _ => rfl
    | 4, _ => rfl
    | 5, _ => rfl
    | 6, _ => rfl
    | 7, _ => rfl
  show IntKind.i64.wrap ((BitVec.ofInt 64 z &&& BitVec.ofInt 64 (2 ^ i)).toNat : Int) = _
  rw [BitVec.toNat_and, h2, e, h1]
  refine wrap_small ?_ ?_
  · omega
  · have h3 : 2 ^ i ≤ 2 ^ 7 := Nat.pow_le_pow_right (by omega) (by omega)
    have h4 : (z % 18446744073709551616).toNat / 2 ^ i % 2 * 2 ^ i ≤ 1 * 2 ^ i := Nat.mul_le_mul_right _ (by omega)
    omega

theorem wrap_pow (i : Nat) (hi : i < 8) : wrap64 (2 ^ i) = 2 ^ i := by
  match i, hi with
  | 0, _ => exact IntWalk.wrap64_in (2 ^ 0) (by decide)
  | 1, _ => exact IntWalk.wrap64_in (2 ^ 1) (by decide)
  | 2, _ => exact IntWalk.wrap64_in (2 ^ 2) (by decide)
  | 3, _ => exact IntWalk.wrap64_in (2 ^ 3) (by decide)
  | 4, _ => exact IntWalk.wrap64_in (2 ^ 4) (by decide)
  | 5, _ => exact IntWalk.wrap64_in (2 ^ 5) (by decide)
  | 6, _ => exact IntWalk.wrap64_in (2 ^ 6) (by decide)
  | 7, _ => exact IntWalk.wrap64_in (2 ^ 7) (by decide)

theorem bit_key (z : Int) (i : Nat) (hi : i < 8) : (((z % 18446744073709551616).toNat / 2 ^ i % 2 : Nat) : Int) = z / 2 ^ i % 2 := by
  match i, hi with
  | 0, _ =>
    show (((z % 18446744073709551616).toNat / 1 % 2 : Nat) : Int) = z / 1 % 2
    omega
  | 1, _ =>
    show (((z % 18446744073709551616).toNat / 2 % 2 : Nat) : Int) = z / 2 % 2
    omega
  | 2, _ =>
    show (((z % 18446744073709551616).toNat / 4 % 2 : Nat) : Int) = z / 4 % 2
    omega
  | 3, _ =>
    show (((z % 18446744073709551616).toNat / 8 % 2 : Nat) : Int) = z / 8 % 2
    omega
  | 4, _ =>
    show (((z % 18446744073709551616).toNat / 16 % 2 : Nat) : Int) = z / 16 % 2
    omega
  | 5, _ =>
    show (((z % 18446744073709551616).toNat / 32 % 2 : Nat) : Int) = z / 32 % 2
    omega
  | 6, _ =>
    show (((z % 18446744073709551616).toNat / 64 % 2 : Nat) : Int) = z / 64 % 2
    omega
  | 7, _ =>
    show (((z % 18446744073709551616).toNat / 128 % 2 : Nat) : Int) = z / 128 % 2
    omega

theorem and_bit (z : Int) (i : Nat) (hi : i < 8) : (bits .and .i64 z (wrap64 (2 ^ i)) != 0) = bitM z i := by
  rw [wrap_pow i hi, and_lit z i hi]
  unfold bitM
  rw [← bit_key z i hi]
  have hp : 0 < 2 ^ i := Nat.two_pow_pos i
  rcases Nat.mod_two_eq_zero_or_one ((z % 18446744073709551616).toNat / 2 ^ i) with h | h
  · rw [h]; simp
  · rw [h, Nat.one_mul]
    have : ((2 ^ i : Nat) : Int) ≠ 0 := by omega
    exact bne_iff_ne.2 this

theorem bits_get (z : Int) (k : Nat) (hk : k < 8) : (bitsM z).getD k false = bitM z k := by
  simp only [bitsM, List.getD_eq_getElem?_getD, List.getElem?_map]
  rw [List.getElem?_range hk]
  rfl
end Go.Proofs.Ytmdjdpofpkgffab

/- split's decode. -/
namespace Go.Proofs.Ytmdjdpofpkgffab
open Go.ChangeShapes Go.WideShapes Go.ChangeAt Go.RowKit
open Split (byt byt_lt byt_bd byt_255 St none8)
set_option linter.unusedVariables false
set_option linter.unusedSimpArgs false

/-- The four numbers of an instruction: op, a, b, and 256 times c plus d. -/
def kOf (c : ByteArray) (i : Nat) : Int := byt c (i * 5)
def aOf (c : ByteArray) (i : Nat) : Int := byt c (i * 5 + 1)
def bOf (c : ByteArray) (i : Nat) : Int := byt c (i * 5 + 2)
def nOf (c : ByteArray) (i : Nat) : Int := 256 * byt c (i * 5 + 3) + byt c (i * 5 + 4)

/-- An instruction as a step. -/
def decS (k a b n : Int) : St :=
  if k = 80 then ⟨80, a, 0, none8, 0⟩
  else if k = 67 then ⟨67, a, n, none8, 0⟩
  else if k = 82 then ⟨82, 0, 0, bitsM a, 0⟩
  else if k = 72 then ⟨72, 0, a, none8, 0⟩
  else if k = 69 then ⟨69, 0, 0, none8, 0⟩
  else if k = 74 then ⟨74, 0, 0, none8, a⟩
  else if k = 73 then ⟨73, a, n, none8, b⟩
  else ⟨0, 0, 0, none8, 0⟩
/-- Is it one, with so many behind it? -/
def decB (k a b left : Int) : Bool :=
  if k = 80 then decide (a < 8)
  else if k = 67 then decide (a < 8)
  else if k = 82 then true
  else if k = 72 then decide (1 ≤ a) && decide (a ≤ 99)
  else if k = 69 then true
  else if k = 74 then decide (a ≤ left)
  else if k = 73 then decide (a < 8) && decide (b ≤ left)
  else false
def decM (c : ByteArray) (i : Nat) : St := decS (kOf c i) (aOf c i) (bOf c i) (nOf c i)
def decOk (c : ByteArray) (i : Nat) (left : Int) : Bool := decide (i * 5 + 5 ≤ c.size) && decB (kOf c i) (aOf c i) (bOf c i) left

theorem dec_zero {k : Int} (h1 : k ≠ 80) (h2 : k ≠ 67) (h3 : k ≠ 82) (h4 : k ≠ 72) (h5 : k ≠ 69) (h6 : k ≠ 74) (h7 : k ≠ 73) (a b n left : Int) : decS k a b n = ⟨0, 0, 0, none8, 0⟩ ∧ decB k a b left = false := by
  unfold decS decB
  rw [if_neg h1, if_neg h2, if_neg h3, if_neg h4, if_neg h5, if_neg h6, if_neg h7, if_neg h1, if_neg h2, if_neg h3, if_neg h4, if_neg h5, if_neg h6, if_neg h7]
  exact ⟨rfl, rfl⟩

set_option maxHeartbeats 4000000 in
theorem decode_any (c : ByteArray) (i : Nat) (left : Int) (w : World) (hc : c.size ≤ 600) (hi : i ≤ 200) (hl0 : 0 ≤ left) (hl1 : left ≤ 1000) :
    Calls Try.prog 70 #[.string c, .int .i64 i, .int .i64 left] w fun e w' => ∃ s : St, e = .returned (.tuple #[.agg (stC s).toArray, .bool (decOk c i left)]) ∧ (decOk c i left = true → s = decM c i) ∧ Below w.heap.size w w' := by
  by_cases hs : i * 5 + 5 ≤ c.size
  · have hok : decOk c i left = decB (byt c (i * 5)) (byt c (i * 5 + 1)) (byt c (i * 5 + 2)) left := by
      unfold decOk kOf aOf bOf
      rw [decide_eq_true hs, Bool.true_and]
    have hst : decM c i = decS (byt c (i * 5)) (byt c (i * 5 + 1)) (byt c (i * 5 + 2)) (256 * byt c (i * 5 + 3) + byt c (i * 5 + 4)) := rfl
    rw [hok, hst]
    clear hok hst
    obtain ⟨j0, g0⟩ : ∃ j : Nat, i * 5 = j := ⟨_, rfl⟩
    obtain ⟨j1, g1⟩ : ∃ j : Nat, i * 5 + 1 = j := ⟨_, rfl⟩
    obtain ⟨j2, g2⟩ : ∃ j : Nat, i * 5 + 2 = j := ⟨_, rfl⟩
    obtain ⟨j3, g3⟩ : ∃ j : Nat, i * 5 + 3 = j := ⟨_, rfl⟩
    obtain ⟨j4, g4⟩ : ∃ j : Nat, i * 5 + 4 = j := ⟨_, rfl⟩
    have e0 : (i : Int) * 5 = j0 := by omega
    have e1 : (j0 : Int) + 1 = j1 := by omega
    have e2 : (j0 : Int) + 2 = j2 := by omega
    have e3 : (j0 : Int) + 3 = j3 := by omega
    have e4 : (j0 : Int) + 4 = j4 := by omega
    have l0 : j0 < c.size := by omega
    have l1 : j1 < c.size := by omega
    have l2 : j2 < c.size := by omega
    have l3 : j3 < c.size := by omega
    have l4 : j4 < c.size := by omega
    have l5 : (j0 : Int) + 5 ≤ c.size := by omega
    have q0 := (byt_lt (t := c) (i := j0) l0).symm
    have q1 := (byt_lt (t := c) (i := j1) l1).symm
    have q2 := (byt_lt (t := c) (i := j2) l2).symm
    have q3 := (byt_lt (t := c) (i := j3) l3).symm
    have q4 := (byt_lt (t := c) (i := j4) l4).symm
    have b0 := byt_bd c j0
    have b1 := byt_bd c j1
    have c1 := byt_255 (t := c) (i := j1) l1
    have b2 := byt_bd c j2
    have b3 := byt_bd c j3
    have b4 := byt_bd c j4
    rw [g4, g3, g2, g1, g0]
    clear g0 g1 g2 g3 g4 hs
    generalize byt c j0 = k at *
    generalize byt c j1 = a at *
    generalize byt c j2 = b at *
    generalize byt c j3 = x at *
    generalize byt c j4 = y at *
    obtain ⟨W, hW⟩ : ∃ W, w.alloc (.cells #[.int .u8 0, .int .i64 0, .int .i64 0, .bool false, .bool false, .bool false, .bool false, .bool false, .bool false, .bool false, .bool false, .int .i64 0] 110) = W := ⟨_, rfl⟩
    have hrow : W.heap[w.heap.size]? = some (.cells #[.int .u8 0, .int .i64 0, .int .i64 0, .bool false, .bool false, .bool false, .bool false, .bool false, .bool false, .bool false, .bool false, .int .i64 0] 110 (0, 0)) := by rw [← hW]; exact heap_alloc_new _ _
    have hBW : Below w.heap.size w W := by rw [← hW]; exact (Below.refl _ _).alloc (Nat.le_refl _) _
    have HW := hide hW
    have HROW := hide hrow
    have HBW := hide hBW
    clear hW hrow hBW
    go_enter Try.func70, Try.ntmps70
    go_wp2_with fail
    rw [unhide HW]
    go_quiet (fail)
    obtain ⟨V, hV⟩ : ∃ V, W.drewN nq = V := ⟨_, rfl⟩
    have hrow : V.heap[w.heap.size]? = some (.cells #[.int .u8 0, .int .i64 0, .int .i64 0, .bool false, .bool false, .bool false, .bool false, .bool false, .bool false, .bool false, .bool false, .int .i64 0] 110 (0, 0)) := by rw [← hV]; exact unhide HROW
    have HBV : Hid (Below w.heap.size w V) := by
      show Below w.heap.size w V
      rw [← hV]; exact below_drewN (unhide HBW) _
    rw [hV]
    have HROWV := hide hrow
    clear hV hrow HROW HBW HW
    by_cases h80 : k = 80
    · subst h80
      have hlV : w.heap.size < V.heap.size := cell_lt (unhide HROWV)
      have r0 := cell_of_row V w.heap.size 0 _ _ _ (unhide HROWV)
      have r1 := cell_of_row V w.heap.size 1 _ _ _ (unhide HROWV)
      have r2 := cell_of_row V w.heap.size 2 _ _ _ (unhide HROWV)
      have r3 := cell_of_row V w.heap.size 3 _ _ _ (unhide HROWV)
      have r4 := cell_of_row V w.heap.size 4 _ _ _ (unhide HROWV)
      have r5 := cell_of_row V w.heap.size 5 _ _ _ (unhide HROWV)
      have r6 := cell_of_row V w.heap.size 6 _ _ _ (unhide HROWV)
      have r7 := cell_of_row V w.heap.size 7 _ _ _ (unhide HROWV)
      have r8 := cell_of_row V w.heap.size 8 _ _ _ (unhide HROWV)
      have r9 := cell_of_row V w.heap.size 9 _ _ _ (unhide HROWV)
      have r10 := cell_of_row V w.heap.size 10 _ _ _ (unhide HROWV)
      have r11 := cell_of_row V w.heap.size 11 _ _ _ (unhide HROWV)
      have f0 := frozen_of_row V w.heap.size 0 _ _ (unhide HROWV)
      have f1 := frozen_of_row V w.heap.size 1 _ _ (unhide HROWV)
      have f2 := frozen_of_row V w.heap.size 2 _ _ (unhide HROWV)
      have f3 := frozen_of_row V w.heap.size 3 _ _ (unhide HROWV)
      have f4 := frozen_of_row V w.heap.size 4 _ _ (unhide HROWV)
      have f5 := frozen_of_row V w.heap.size 5 _ _ (unhide HROWV)
      have f6 := frozen_of_row V w.heap.size 6 _ _ (unhide HROWV)
      have f7 := frozen_of_row V w.heap.size 7 _ _ (unhide HROWV)
      have f8 := frozen_of_row V w.heap.size 8 _ _ (unhide HROWV)
      have f9 := frozen_of_row V w.heap.size 9 _ _ (unhide HROWV)
      have f10 := frozen_of_row V w.heap.size 10 _ _ (unhide HROWV)
      have f11 := frozen_of_row V w.heap.size 11 _ _ (unhide HROWV)
      simp at r0 r1 r2 r3 r4 r5 r6 r7 r8 r9 r10 r11
      go_wp2_with fail
      refine bodyPost_ret (v := .tuple #[.agg #[.int .u8 80, .int .i64 a, .int .i64 0, .bool false, .bool false, .bool false, .bool false, .bool false, .bool false, .bool false, .bool false, .int .i64 0], .bool (decide (a < 8))]) (by simp [results, Try.results70, go_sem, r0, r1, r2, r3, r4, r5, r6, r7, r8, r9, r10, r11, hlV]) rfl ?_
      rw [show decB 80 a b left = (decide (a < 8)) from by simp [decB]]
      refine ⟨⟨80, a, 0, none8, 0⟩, rfl, fun _ => by simp [decS], (unhide HBV).trans (below_of_grown (r := some w.heap.size) ?_ (by omega) (fun k hk => by simp at hk; omega))⟩
      iterate 12 refine grown_set ?_ _ _
      exact grown_refl _ _
    by_cases h67 : k = 67
    · subst h67
      have hlV : w.heap.size < V.heap.size := cell_lt (unhide HROWV)
      have r0 := cell_of_row V w.heap.size 0 _ _ _ (unhide HROWV)
      have r1 := cell_of_row V w.heap.size 1 _ _ _ (unhide HROWV)
      have r2 := cell_of_row V w.heap.size 2 _ _ _ (unhide HROWV)
      have r3 := cell_of_row V w.heap.size 3 _ _ _ (unhide HROWV)
      have r4 := cell_of_row V w.heap.size 4 _ _ _ (unhide HROWV)
      have r5 := cell_of_row V w.heap.size 5 _ _ _ (unhide HROWV)
      have r6 := cell_of_row V w.heap.size 6 _ _ _ (unhide HROWV)
      have r7 := cell_of_row V w.heap.size 7 _ _ _ (unhide HROWV)
      have r8 := cell_of_row V w.heap.size 8 _ _ _ (unhide HROWV)
      have r9 := cell_of_row V w.heap.size 9 _ _ _ (unhide HROWV)
      have r10 := cell_of_row V w.heap.size 10 _ _ _ (unhide HROWV)
      have r11 := cell_of_row V w.heap.size 11 _ _ _ (unhide HROWV)
      have f0 := frozen_of_row V w.heap.size 0 _ _ (unhide HROWV)
      have f1 := frozen_of_row V w.heap.size 1 _ _ (unhide HROWV)
      have f2 := frozen_of_row V w.heap.size 2 _ _ (unhide HROWV)
      have f3 := frozen_of_row V w.heap.size 3 _ _ (unhide HROWV)
      have f4 := frozen_of_row V w.heap.size 4 _ _ (unhide HROWV)
      have f5 := frozen_of_row V w.heap.size 5 _ _ (unhide HROWV)
      have f6 := frozen_of_row V w.heap.size 6 _ _ (unhide HROWV)
      have f7 := frozen_of_row V w.heap.size 7 _ _ (unhide HROWV)
      have f8 := frozen_of_row V w.heap.size 8 _ _ (unhide HROWV)
      have f9 := frozen_of_row V w.heap.size 9 _ _ (unhide HROWV)
      have f10 := frozen_of_row V w.heap.size 10 _ _ (unhide HROWV)
      have f11 := frozen_of_row V w.heap.size 11 _ _ (unhide HROWV)
      simp at r0 r1 r2 r3 r4 r5 r6 r7 r8 r9 r10 r11
      go_wp2_with fail
      refine bodyPost_ret (v := .tuple #[.agg #[.int .u8 67, .int .i64 a, .int .i64 (256 * x + y), .bool false, .bool false, .bool false, .bool false, .bool false, .bool false, .bool false, .bool false, .int .i64 0], .bool (decide (a < 8))]) (by simp [results, Try.results70, go_sem, r0, r1, r2, r3, r4, r5, r6, r7, r8, r9, r10, r11, hlV]) rfl ?_
      rw [show decB 67 a b left = (decide (a < 8)) from by simp [decB]]
      refine ⟨⟨67, a, 256 * x + y, none8, 0⟩, rfl, fun _ => by simp [decS], (unhide HBV).trans (below_of_grown (r := some w.heap.size) ?_ (by omega) (fun k hk => by simp at hk; omega))⟩
      iterate 12 refine grown_set ?_ _ _
      exact grown_refl _ _
    by_cases h82 : k = 82
    · subst h82
      have hm8 : (bitsM a).length = 8 := by simp [bitsM]
      obtain ⟨mm, hmm⟩ : ∃ mm, bitsM a = mm := ⟨_, rfl⟩
      rw [hmm] at hm8
      have HMM := hide hmm
      clear hmm
      match mm, hm8 with
      | [m0, m1, m2, m3, m4, m5, m6, m7], _ =>
        go_wp2_with fail
        refine (bucketsOf_any a b1.1 c1 _).mono ?_
        rintro e V2 ⟨rfl, hb2⟩
        rw [unhide HMM]
        have HROW2 := hide ((hb2.block w.heap.size (cell_lt (unhide HROWV))).trans (unhide HROWV))
        have HB2 := hide ((unhide HBV).trans (hb2.mono (Nat.le_of_lt (cell_lt (unhide HROWV)))))
        clear hb2
        have hlV : w.heap.size < V2.heap.size := cell_lt (unhide HROW2)
        have r0 := cell_of_row V2 w.heap.size 0 _ _ _ (unhide HROW2)
        have r1 := cell_of_row V2 w.heap.size 1 _ _ _ (unhide HROW2)
        have r2 := cell_of_row V2 w.heap.size 2 _ _ _ (unhide HROW2)
        have r3 := cell_of_row V2 w.heap.size 3 _ _ _ (unhide HROW2)
        have r4 := cell_of_row V2 w.heap.size 4 _ _ _ (unhide HROW2)
        have r5 := cell_of_row V2 w.heap.size 5 _ _ _ (unhide HROW2)
        have r6 := cell_of_row V2 w.heap.size 6 _ _ _ (unhide HROW2)
        have r7 := cell_of_row V2 w.heap.size 7 _ _ _ (unhide HROW2)
        have r8 := cell_of_row V2 w.heap.size 8 _ _ _ (unhide HROW2)
        have r9 := cell_of_row V2 w.heap.size 9 _ _ _ (unhide HROW2)
        have r10 := cell_of_row V2 w.heap.size 10 _ _ _ (unhide HROW2)
        have r11 := cell_of_row V2 w.heap.size 11 _ _ _ (unhide HROW2)
        have f0 := frozen_of_row V2 w.heap.size 0 _ _ (unhide HROW2)
        have f1 := frozen_of_row V2 w.heap.size 1 _ _ (unhide HROW2)
        have f2 := frozen_of_row V2 w.heap.size 2 _ _ (unhide HROW2)
        have f3 := frozen_of_row V2 w.heap.size 3 _ _ (unhide HROW2)
        have f4 := frozen_of_row V2 w.heap.size 4 _ _ (unhide HROW2)
        have f5 := frozen_of_row V2 w.heap.size 5 _ _ (unhide HROW2)
        have f6 := frozen_of_row V2 w.heap.size 6 _ _ (unhide HROW2)
        have f7 := frozen_of_row V2 w.heap.size 7 _ _ (unhide HROW2)
        have f8 := frozen_of_row V2 w.heap.size 8 _ _ (unhide HROW2)
        have f9 := frozen_of_row V2 w.heap.size 9 _ _ (unhide HROW2)
        have f10 := frozen_of_row V2 w.heap.size 10 _ _ (unhide HROW2)
        have f11 := frozen_of_row V2 w.heap.size 11 _ _ (unhide HROW2)
        simp at r0 r1 r2 r3 r4 r5 r6 r7 r8 r9 r10 r11
        simp only [List.map_cons, List.map_nil]
        go_wp2_with fail
        refine bodyPost_ret (v := .tuple #[.agg #[.int .u8 82, .int .i64 0, .int .i64 0, .bool m0, .bool m1, .bool m2, .bool m3, .bool m4, .bool m5, .bool m6, .bool m7, .int .i64 0], .bool true]) (by simp [results, Try.results70, go_sem, r0, r1, r2, r3, r4, r5, r6, r7, r8, r9, r10, r11, hlV]) rfl ?_
        rw [show decB 82 a b left = true from by simp [decB]]
        refine ⟨⟨82, 0, 0, [m0, m1, m2, m3, m4, m5, m6, m7], 0⟩, rfl, fun _ => by simp [decS, unhide HMM], (unhide HB2).trans (below_of_grown (r := some w.heap.size) ?_ (by omega) (fun k hk => by simp at hk; omega))⟩
        iterate 12 refine grown_set ?_ _ _
        exact grown_refl _ _
    by_cases h72 : k = 72
    · subst h72
      have hlV : w.heap.size < V.heap.size := cell_lt (unhide HROWV)
      have r0 := cell_of_row V w.heap.size 0 _ _ _ (unhide HROWV)
      have r1 := cell_of_row V w.heap.size 1 _ _ _ (unhide HROWV)
      have r2 := cell_of_row V w.heap.size 2 _ _ _ (unhide HROWV)
      have r3 := cell_of_row V w.heap.size 3 _ _ _ (unhide HROWV)
      have r4 := cell_of_row V w.heap.size 4 _ _ _ (unhide HROWV)
      have r5 := cell_of_row V w.heap.size 5 _ _ _ (unhide HROWV)
      have r6 := cell_of_row V w.heap.size 6 _ _ _ (unhide HROWV)
      have r7 := cell_of_row V w.heap.size 7 _ _ _ (unhide HROWV)
      have r8 := cell_of_row V w.heap.size 8 _ _ _ (unhide HROWV)
      have r9 := cell_of_row V w.heap.size 9 _ _ _ (unhide HROWV)
      have r10 := cell_of_row V w.heap.size 10 _ _ _ (unhide HROWV)
      have r11 := cell_of_row V w.heap.size 11 _ _ _ (unhide HROWV)
      have f0 := frozen_of_row V w.heap.size 0 _ _ (unhide HROWV)
      have f1 := frozen_of_row V w.heap.size 1 _ _ (unhide HROWV)
      have f2 := frozen_of_row V w.heap.size 2 _ _ (unhide HROWV)
      have f3 := frozen_of_row V w.heap.size 3 _ _ (unhide HROWV)
      have f4 := frozen_of_row V w.heap.size 4 _ _ (unhide HROWV)
      have f5 := frozen_of_row V w.heap.size 5 _ _ (unhide HROWV)
      have f6 := frozen_of_row V w.heap.size 6 _ _ (unhide HROWV)
      have f7 := frozen_of_row V w.heap.size 7 _ _ (unhide HROWV)
      have f8 := frozen_of_row V w.heap.size 8 _ _ (unhide HROWV)
      have f9 := frozen_of_row V w.heap.size 9 _ _ (unhide HROWV)
      have f10 := frozen_of_row V w.heap.size 10 _ _ (unhide HROWV)
      have f11 := frozen_of_row V w.heap.size 11 _ _ (unhide HROWV)
      simp at r0 r1 r2 r3 r4 r5 r6 r7 r8 r9 r10 r11
      by_cases ha1 : 1 ≤ a
      · go_wp2_with fail
        refine bodyPost_ret (v := .tuple #[.agg #[.int .u8 72, .int .i64 0, .int .i64 a, .bool false, .bool false, .bool false, .bool false, .bool false, .bool false, .bool false, .bool false, .int .i64 0], .bool (decide (a ≤ 99))]) (by simp [results, Try.results70, go_sem, r0, r1, r2, r3, r4, r5, r6, r7, r8, r9, r10, r11, hlV]) rfl ?_
        rw [show decB 72 a b left = (decide (a ≤ 99)) from by simp [decB]; omega]
        refine ⟨⟨72, 0, a, none8, 0⟩, rfl, fun _ => by simp [decS], (unhide HBV).trans (below_of_grown (r := some w.heap.size) ?_ (by omega) (fun k hk => by simp at hk; omega))⟩
        iterate 12 refine grown_set ?_ _ _
        exact grown_refl _ _
      · go_wp2_with fail
        refine bodyPost_ret (v := .tuple #[.agg #[.int .u8 72, .int .i64 0, .int .i64 a, .bool false, .bool false, .bool false, .bool false, .bool false, .bool false, .bool false, .bool false, .int .i64 0], .bool false]) (by simp [results, Try.results70, go_sem, r0, r1, r2, r3, r4, r5, r6, r7, r8, r9, r10, r11, hlV]) rfl ?_
        rw [show decB 72 a b left = false from by simp [decB]; omega]
        refine ⟨⟨72, 0, a, none8, 0⟩, rfl, fun _ => by simp [decS], (unhide HBV).trans (below_of_grown (r := some w.heap.size) ?_ (by omega) (fun k hk => by simp at hk; omega))⟩
        iterate 12 refine grown_set ?_ _ _
        exact grown_refl _ _
    by_cases h69 : k = 69
    · subst h69
      have hlV : w.heap.size < V.heap.size := cell_lt (unhide HROWV)
      have r0 := cell_of_row V w.heap.size 0 _ _ _ (unhide HROWV)
      have r1 := cell_of_row V w.heap.size 1 _ _ _ (unhide HROWV)
      have r2 := cell_of_row V w.heap.size 2 _ _ _ (unhide HROWV)
      have r3 := cell_of_row V w.heap.size 3 _ _ _ (unhide HROWV)
      have r4 := cell_of_row V w.heap.size 4 _ _ _ (unhide HROWV)
      have r5 := cell_of_row V w.heap.size 5 _ _ _ (unhide HROWV)
      have r6 := cell_of_row V w.heap.size 6 _ _ _ (unhide HROWV)
      have r7 := cell_of_row V w.heap.size 7 _ _ _ (unhide HROWV)
      have r8 := cell_of_row V w.heap.size 8 _ _ _ (unhide HROWV)
      have r9 := cell_of_row V w.heap.size 9 _ _ _ (unhide HROWV)
      have r10 := cell_of_row V w.heap.size 10 _ _ _ (unhide HROWV)
      have r11 := cell_of_row V w.heap.size 11 _ _ _ (unhide HROWV)
      have f0 := frozen_of_row V w.heap.size 0 _ _ (unhide HROWV)
      have f1 := frozen_of_row V w.heap.size 1 _ _ (unhide HROWV)
      have f2 := frozen_of_row V w.heap.size 2 _ _ (unhide HROWV)
      have f3 := frozen_of_row V w.heap.size 3 _ _ (unhide HROWV)
      have f4 := frozen_of_row V w.heap.size 4 _ _ (unhide HROWV)
      have f5 := frozen_of_row V w.heap.size 5 _ _ (unhide HROWV)
      have f6 := frozen_of_row V w.heap.size 6 _ _ (unhide HROWV)
      have f7 := frozen_of_row V w.heap.size 7 _ _ (unhide HROWV)
      have f8 := frozen_of_row V w.heap.size 8 _ _ (unhide HROWV)
      have f9 := frozen_of_row V w.heap.size 9 _ _ (unhide HROWV)
      have f10 := frozen_of_row V w.heap.size 10 _ _ (unhide HROWV)
      have f11 := frozen_of_row V w.heap.size 11 _ _ (unhide HROWV)
      simp at r0 r1 r2 r3 r4 r5 r6 r7 r8 r9 r10 r11
      go_wp2_with fail
      refine bodyPost_ret (v := .tuple #[.agg #[.int .u8 69, .int .i64 0, .int .i64 0, .bool false, .bool false, .bool false, .bool false, .bool false, .bool false, .bool false, .bool false, .int .i64 0], .bool true]) (by simp [results, Try.results70, go_sem, r0, r1, r2, r3, r4, r5, r6, r7, r8, r9, r10, r11, hlV]) rfl ?_
      rw [show decB 69 a b left = true from by simp [decB]]
      refine ⟨⟨69, 0, 0, none8, 0⟩, rfl, fun _ => by simp [decS], (unhide HBV).trans (below_of_grown (r := some w.heap.size) ?_ (by omega) (fun k hk => by simp at hk; omega))⟩
      iterate 12 refine grown_set ?_ _ _
      exact grown_refl _ _
    by_cases h74 : k = 74
    · subst h74
      have hlV : w.heap.size < V.heap.size := cell_lt (unhide HROWV)
      have r0 := cell_of_row V w.heap.size 0 _ _ _ (unhide HROWV)
      have r1 := cell_of_row V w.heap.size 1 _ _ _ (unhide HROWV)
      have r2 := cell_of_row V w.heap.size 2 _ _ _ (unhide HROWV)
      have r3 := cell_of_row V w.heap.size 3 _ _ _ (unhide HROWV)
      have r4 := cell_of_row V w.heap.size 4 _ _ _ (unhide HROWV)
      have r5 := cell_of_row V w.heap.size 5 _ _ _ (unhide HROWV)
      have r6 := cell_of_row V w.heap.size 6 _ _ _ (unhide HROWV)
      have r7 := cell_of_row V w.heap.size 7 _ _ _ (unhide HROWV)
      have r8 := cell_of_row V w.heap.size 8 _ _ _ (unhide HROWV)
      have r9 := cell_of_row V w.heap.size 9 _ _ _ (unhide HROWV)
      have r10 := cell_of_row V w.heap.size 10 _ _ _ (unhide HROWV)
      have r11 := cell_of_row V w.heap.size 11 _ _ _ (unhide HROWV)
      have f0 := frozen_of_row V w.heap.size 0 _ _ (unhide HROWV)
      have f1 := frozen_of_row V w.heap.size 1 _ _ (unhide HROWV)
      have f2 := frozen_of_row V w.heap.size 2 _ _ (unhide HROWV)
      have f3 := frozen_of_row V w.heap.size 3 _ _ (unhide HROWV)
      have f4 := frozen_of_row V w.heap.size 4 _ _ (unhide HROWV)
      have f5 := frozen_of_row V w.heap.size 5 _ _ (unhide HROWV)
      have f6 := frozen_of_row V w.heap.size 6 _ _ (unhide HROWV)
      have f7 := frozen_of_row V w.heap.size 7 _ _ (unhide HROWV)
      have f8 := frozen_of_row V w.heap.size 8 _ _ (unhide HROWV)
      have f9 := frozen_of_row V w.heap.size 9 _ _ (unhide HROWV)
      have f10 := frozen_of_row V w.heap.size 10 _ _ (unhide HROWV)
      have f11 := frozen_of_row V w.heap.size 11 _ _ (unhide HROWV)
      simp at r0 r1 r2 r3 r4 r5 r6 r7 r8 r9 r10 r11
      go_wp2_with fail
      refine bodyPost_ret (v := .tuple #[.agg #[.int .u8 74, .int .i64 0, .int .i64 0, .bool false, .bool false, .bool false, .bool false, .bool false, .bool false, .bool false, .bool false, .int .i64 a], .bool (decide (a ≤ left))]) (by simp [results, Try.results70, go_sem, r0, r1, r2, r3, r4, r5, r6, r7, r8, r9, r10, r11, hlV]) rfl ?_
      rw [show decB 74 a b left = (decide (a ≤ left)) from by simp [decB]]
      refine ⟨⟨74, 0, 0, none8, a⟩, rfl, fun _ => by simp [decS], (unhide HBV).trans (below_of_grown (r := some w.heap.size) ?_ (by omega) (fun k hk => by simp at hk; omega))⟩
      iterate 12 refine grown_set ?_ _ _
      exact grown_refl _ _
    by_cases h73 : k = 73
    · subst h73
      have hlV : w.heap.size < V.heap.size := cell_lt (unhide HROWV)
      have r0 := cell_of_row V w.heap.size 0 _ _ _ (unhide HROWV)
      have r1 := cell_of_row V w.heap.size 1 _ _ _ (unhide HROWV)
      have r2 := cell_of_row V w.heap.size 2 _ _ _ (unhide HROWV)
      have r3 := cell_of_row V w.heap.size 3 _ _ _ (unhide HROWV)
      have r4 := cell_of_row V w.heap.size 4 _ _ _ (unhide HROWV)
      have r5 := cell_of_row V w.heap.size 5 _ _ _ (unhide HROWV)
      have r6 := cell_of_row V w.heap.size 6 _ _ _ (unhide HROWV)
      have r7 := cell_of_row V w.heap.size 7 _ _ _ (unhide HROWV)
      have r8 := cell_of_row V w.heap.size 8 _ _ _ (unhide HROWV)
      have r9 := cell_of_row V w.heap.size 9 _ _ _ (unhide HROWV)
      have r10 := cell_of_row V w.heap.size 10 _ _ _ (unhide HROWV)
      have r11 := cell_of_row V w.heap.size 11 _ _ _ (unhide HROWV)
      have f0 := frozen_of_row V w.heap.size 0 _ _ (unhide HROWV)
      have f1 := frozen_of_row V w.heap.size 1 _ _ (unhide HROWV)
      have f2 := frozen_of_row V w.heap.size 2 _ _ (unhide HROWV)
      have f3 := frozen_of_row V w.heap.size 3 _ _ (unhide HROWV)
      have f4 := frozen_of_row V w.heap.size 4 _ _ (unhide HROWV)
      have f5 := frozen_of_row V w.heap.size 5 _ _ (unhide HROWV)
      have f6 := frozen_of_row V w.heap.size 6 _ _ (unhide HROWV)
      have f7 := frozen_of_row V w.heap.size 7 _ _ (unhide HROWV)
      have f8 := frozen_of_row V w.heap.size 8 _ _ (unhide HROWV)
      have f9 := frozen_of_row V w.heap.size 9 _ _ (unhide HROWV)
      have f10 := frozen_of_row V w.heap.size 10 _ _ (unhide HROWV)
      have f11 := frozen_of_row V w.heap.size 11 _ _ (unhide HROWV)
      simp at r0 r1 r2 r3 r4 r5 r6 r7 r8 r9 r10 r11
      by_cases ha1 : a < 8
      · go_wp2_with fail
        refine bodyPost_ret (v := .tuple #[.agg #[.int .u8 73, .int .i64 a, .int .i64 (256 * x + y), .bool false, .bool false, .bool false, .bool false, .bool false, .bool false, .bool false, .bool false, .int .i64 b], .bool (decide (b ≤ left))]) (by simp [results, Try.results70, go_sem, r0, r1, r2, r3, r4, r5, r6, r7, r8, r9, r10, r11, hlV]) rfl ?_
        rw [show decB 73 a b left = (decide (b ≤ left)) from by simp [decB]; omega]
        refine ⟨⟨73, a, 256 * x + y, none8, b⟩, rfl, fun _ => by simp [decS], (unhide HBV).trans (below_of_grown (r := some w.heap.size) ?_ (by omega) (fun k hk => by simp at hk; omega))⟩
        iterate 12 refine grown_set ?_ _ _
        exact grown_refl _ _
      · go_wp2_with fail
        refine bodyPost_ret (v := .tuple #[.agg #[.int .u8 73, .int .i64 a, .int .i64 (256 * x + y), .bool false, .bool false, .bool false, .bool false, .bool false, .bool false, .bool false, .bool false, .int .i64 b], .bool false]) (by simp [results, Try.results70, go_sem, r0, r1, r2, r3, r4, r5, r6, r7, r8, r9, r10, r11, hlV]) rfl ?_
        rw [show decB 73 a b left = false from by simp [decB]; omega]
        refine ⟨⟨73, a, 256 * x + y, none8, b⟩, rfl, fun _ => by simp [decS], (unhide HBV).trans (below_of_grown (r := some w.heap.size) ?_ (by omega) (fun k hk => by simp at hk; omega))⟩
        iterate 12 refine grown_set ?_ _ _
        exact grown_refl _ _
    obtain ⟨z1, z2⟩ := dec_zero h80 h67 h82 h72 h69 h74 h73 a b (256 * x + y) left
    have Z2 := hide z2
    have n1 : (k == 80) = false := beq_eq_false_iff_ne.2 h80
    have n2 : (k == 67) = false := beq_eq_false_iff_ne.2 h67
    have n3 : (k == 82) = false := beq_eq_false_iff_ne.2 h82
    have n4 : (k == 72) = false := beq_eq_false_iff_ne.2 h72
    have n5 : (k == 69) = false := beq_eq_false_iff_ne.2 h69
    have n6 : (k == 74) = false := beq_eq_false_iff_ne.2 h74
    have n7 : (k == 73) = false := beq_eq_false_iff_ne.2 h73
    clear z1 z2 h80 h67 h82 h72 h69 h74 h73
    have hlV : w.heap.size < V.heap.size := cell_lt (unhide HROWV)
    have r0 := cell_of_row V w.heap.size 0 _ _ _ (unhide HROWV)
    have r1 := cell_of_row V w.heap.size 1 _ _ _ (unhide HROWV)
    have r2 := cell_of_row V w.heap.size 2 _ _ _ (unhide HROWV)
    have r3 := cell_of_row V w.heap.size 3 _ _ _ (unhide HROWV)
    have r4 := cell_of_row V w.heap.size 4 _ _ _ (unhide HROWV)
    have r5 := cell_of_row V w.heap.size 5 _ _ _ (unhide HROWV)
    have r6 := cell_of_row V w.heap.size 6 _ _ _ (unhide HROWV)
    have r7 := cell_of_row V w.heap.size 7 _ _ _ (unhide HROWV)
    have r8 := cell_of_row V w.heap.size 8 _ _ _ (unhide HROWV)
    have r9 := cell_of_row V w.heap.size 9 _ _ _ (unhide HROWV)
    have r10 := cell_of_row V w.heap.size 10 _ _ _ (unhide HROWV)
    have r11 := cell_of_row V w.heap.size 11 _ _ _ (unhide HROWV)
    have f0 := frozen_of_row V w.heap.size 0 _ _ (unhide HROWV)
    have f1 := frozen_of_row V w.heap.size 1 _ _ (unhide HROWV)
    have f2 := frozen_of_row V w.heap.size 2 _ _ (unhide HROWV)
    have f3 := frozen_of_row V w.heap.size 3 _ _ (unhide HROWV)
    have f4 := frozen_of_row V w.heap.size 4 _ _ (unhide HROWV)
    have f5 := frozen_of_row V w.heap.size 5 _ _ (unhide HROWV)
    have f6 := frozen_of_row V w.heap.size 6 _ _ (unhide HROWV)
    have f7 := frozen_of_row V w.heap.size 7 _ _ (unhide HROWV)
    have f8 := frozen_of_row V w.heap.size 8 _ _ (unhide HROWV)
    have f9 := frozen_of_row V w.heap.size 9 _ _ (unhide HROWV)
    have f10 := frozen_of_row V w.heap.size 10 _ _ (unhide HROWV)
    have f11 := frozen_of_row V w.heap.size 11 _ _ (unhide HROWV)
    simp at r0 r1 r2 r3 r4 r5 r6 r7 r8 r9 r10 r11
    go_wp2_with fail
    refine bodyPost_ret (v := .tuple #[.agg #[.int .u8 0, .int .i64 0, .int .i64 0, .bool false, .bool false, .bool false, .bool false, .bool false, .bool false, .bool false, .bool false, .int .i64 0], .bool false]) (by simp [results, Try.results70, go_sem, r0, r1, r2, r3, r4, r5, r6, r7, r8, r9, r10, r11, hlV]) rfl ?_
    rw [unhide Z2]
    refine ⟨⟨0, 0, 0, none8, 0⟩, rfl, fun h => by simp at h, (unhide HBV).trans (below_of_grown (r := some w.heap.size) ?_ (by omega) (fun k hk => by simp at hk; omega))⟩
    iterate 12 refine grown_set ?_ _ _
    exact grown_refl _ _
  · have hok : decOk c i left = false := by
      unfold decOk
      rw [decide_eq_false hs, Bool.false_and]
    rw [hok]
    clear hok
    have hs' : (c.size : Int) < (i : Int) * 5 + 5 := by omega
    go_enter Try.func70, Try.ntmps70
    go_wp2_with fail
    refine bodyPost_ret (v := .tuple #[.agg #[.int .u8 0, .int .i64 0, .int .i64 0, .bool false, .bool false, .bool false, .bool false, .bool false, .bool false, .bool false, .bool false, .int .i64 0], .bool false]) (by simp [results, Try.results70, go_sem]) rfl ?_
    exact ⟨⟨0, 0, 0, none8, 0⟩, rfl, fun h => by simp at h, (Below.refl _ _).alloc (Nat.le_refl _) _⟩
end Go.Proofs.Ytmdjdpofpkgffab
