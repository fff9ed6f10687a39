/- letter, four. -/
import Derived.Test.YtbpolcnjojlkjaaShares
import Derived.Laws.BytesArg
namespace Go.Proofs.Ytbpolcnjojlkjaa
open Go.ChangeShapes Go.WideShapes Go.ChangeAt Go.RowKit
open Split (Pu Keeps)
set_option linter.unusedVariables false
set_option linter.unusedSimpArgs false

theorem and7 (z : Int) : bits .and .i64 z 7 = z % 8 := by
  have e : ∀ x : Nat, x &&& 7 = x % 8 := fun x => Nat.and_two_pow_sub_one_eq_mod x 3
  have h1 : (BitVec.ofInt 64 z).toNat = (z % 18446744073709551616).toNat := by rw [BitVec.toNat_ofInt]; rfl
  show IntKind.i64.wrap ((BitVec.ofInt 64 z &&& BitVec.ofInt 64 7).toNat : Int) = _
  rw [BitVec.toNat_and, show (BitVec.ofInt 64 7).toNat = 7 from rfl, e, h1, IntKind.wrap_i64]
  omega

theorem conv_new (xs : List Int) (n : Nat) (hn : xs.length = n) (w : World) : (convert 51 9 (.slice (some ⟨w.heap.size, 0, none⟩) n n)).run Try.prog (w.alloc (.cells (xs.map (Value.int .u8)).toArray 5)) = .ok (.string (strOfNums xs)) (w.alloc (.cells (xs.map (Value.int .u8)).toArray 5)) := by
  refine run_convert_bytes_arg _ 51 5 (by kernel_rfl) (by kernel_rfl) w.heap.size 0 n n xs hn ?_ 9 (by kernel_rfl)
  intro i hi
  rw [Nat.zero_add, cell_of_row _ w.heap.size i _ _ _ (heap_alloc_new w _)]
  simp [List.getElem?_eq_getElem (show i < xs.length by omega)]

set_option maxRecDepth 100000 in
set_option maxHeartbeats 4000000 in
theorem letter_any (i : Int) (w : World) :
    Calls Try.prog 25 #[.int .i64 i] w fun e w' => e = .returned (.tuple #[.string (strOfNums [97 + i % 8]), .int .i64 (i % 8)]) ∧ Below w.heap.size w w' := by
  have hand := and7 i
  have h0 : 0 ≤ i % 8 := by omega
  have h8 : i % 8 < 8 := by omega
  obtain ⟨k, hk⟩ : ∃ k, i % 8 = k := ⟨_, rfl⟩
  rw [hk] at hand h0 h8 ⊢
  clear hk
  have hc := conv_new [97 + k] 1 rfl w
  simp only [List.map_cons, List.map_nil] at hc
  have hw2 : (97 + k) % 256 = 97 + k := by omega
  go_enter Try.func25, Try.ntmps25
  go_wp2_with fail
  go_ret2
  exact ⟨rfl, (Below.refl _ _).alloc (Nat.le_refl _) _⟩

set_option maxRecDepth 100000 in
set_option maxHeartbeats 4000000 in
theorem four_any (n : Int) (w : World) (hn : (Lit.int .i64 n).wf = true) :
    Calls Try.prog 26 #[.int .i64 n] w fun e w' => e = .returned (.tuple #[.string (strOfNums [48 + n % 10000 / 1000, 48 + n % 10000 / 100 % 10, 48 + n % 10000 / 10 % 10, 48 + n % 10000 % 10]), .int .i64 (n % 10000)]) ∧ Below w.heap.size w w' := by
  have h0 : 0 ≤ n % 10000 := by omega
  have h8 : n % 10000 < 10000 := by omega
  have hmod : n.tmod 10000 = n % 10000 ∨ (n.tmod 10000 = n % 10000 - 10000 ∧ n.tmod 10000 < 0) := by
    rw [Int.tmod_eq_emod]
    split
    · left; omega
    · right; constructor <;> first | (simp; done) | (simp; omega) | omega
  obtain ⟨v, hv⟩ : ∃ v, n % 10000 = v := ⟨_, rfl⟩
  rw [hv] at hmod h0 h8 ⊢
  clear hv hn
  have hc := conv_new [48 + v / 1000, 48 + v / 100 % 10, 48 + v / 10 % 10, 48 + v % 10] 4 rfl w
  simp only [List.map_cons, List.map_nil] at hc
  rcases hmod with hx | ⟨hx, hneg⟩
  · go_enter Try.func26, Try.ntmps26
    go_wp2_with fail
    go_ret2
    exact ⟨rfl, (Below.refl _ _).alloc (Nat.le_refl _) _⟩
  · have hneg' : v - 10000 < 0 := by omega
    have e1 : v - 10000 + 10000 = v := by omega
    clear hneg
    go_enter Try.func26, Try.ntmps26
    go_wp2_with fail
    go_ret2
    exact ⟨rfl, (Below.refl _ _).alloc (Nat.le_refl _) _⟩
end Go.Proofs.Ytbpolcnjojlkjaa
