/- Singles: Letter, Single -/
import Derived.Test.YtmdjdpofpkgffaaShares
import Derived.Laws.BytesArg
import Derived.Test.YtmdjdpofpkgffaaConserves

/- letter, four. -/
namespace Go.Proofs.Ytmdjdpofpkgffaa
open Go.ChangeShapes Go.WideShapes Go.ChangeAt Go.RowKit
open Split (Pu Keeps)
set_option linter.unusedVariables false
set_option linter.unusedSimpArgs false

theorem and7 (z : Int) : bits .and .i64 z 7 = z % 8 := by
  have e : ∀ x : Nat, x &&& 7 = x % 8 := fun x => Nat.and_two_pow_sub_one_eq_mod x 3
  have h1 : (BitVec.ofInt 64 z).toNat = (z % 18446744073709551616).toNat := by rw [BitVec.toNat_ofInt]; rfl
  show IntKind.i64.wrap ((BitVec.ofInt 64 z &&& BitVec.ofInt 64 7).toNat : Int) = _
  rw [BitVec.toNat_and, show (BitVec.ofInt 64 7).toNat = 7 from rfl, e, h1, IntKind.wrap_i64]
  omega

theorem conv_new (xs : List Int) (n : Nat) (hn : xs.length = n) (w : World) : (convert 51 9 (.slice (some ⟨w.heap.size, 0, none⟩) n n)).run Try.prog (w.alloc (.cells (xs.map (Value.int .u8)).toArray 5)) = .ok (.string (strOfNums xs)) (w.alloc (.cells (xs.map (Value.int .u8)).toArray 5)) := by
  refine run_convert_bytes_arg _ 51 5 (by kernel_rfl) (by kernel_rfl) w.heap.size 0 n n xs hn ?_ 9 (by kernel_rfl)
  intro i hi
  rw [Nat.zero_add, cell_of_row _ w.heap.size i _ _ _ (heap_alloc_new w _)]
  simp [List.getElem?_eq_getElem (show i < xs.length by omega)]

set_option maxRecDepth 100000 in
set_option maxHeartbeats 4000000 in
theorem letter_any (i : Int) (w : World) :
    Calls Try.prog 25 #[.int .i64 i] w fun e w' => e = .returned (.tuple #[.string (strOfNums [97 + i % 8]), .int .i64 (i % 8)]) ∧ Below w.heap.size w w' := by
  have hand := and7 i
  have h0 : 0 ≤ i % 8 := by omega
  have h8 : i % 8 < 8 := by omega
  obtain ⟨k, hk⟩ : ∃ k, i % 8 = k := ⟨_, rfl⟩
  rw [hk] at hand h0 h8 ⊢
  clear hk
  have hc := conv_new [97 + k] 1 rfl w
  simp only [List.map_cons, List.map_nil] at hc
  have hw2 : (97 + k) % 256 = 97 + k := by omega
  go_enter Try.func25, Try.ntmps25
  go_wp2_with fail
  go_ret2
  exact ⟨rfl, (Below.refl _ _).alloc (Nat.le_refl _) _⟩

set_option maxRecDepth 100000 in
set_option maxHeartbeats 4000000 in
theorem four_any (n : Int) (w : World) (hn : (Lit.int .i64 n).wf = true) :
    Calls Try.prog 26 #[.int .i64 n] w fun e w' => e = .returned (.tuple #[.string (strOfNums [48 + n % 10000 / 1000, 48 + n % 10000 / 100 % 10, 48 + n % 10000 / 10 % 10, 48 + n % 10000 % 10]), .int .i64 (n % 10000)]) ∧ Below w.heap.size w w' := by
  have h0 : 0 ≤ n % 10000 := by omega
  have h8 : n % 10000 < 10000 := by omega
  have hmod : n.tmod 10000 = n % 10000 ∨ (n.tmod 10000 = n % 10000 - 10000 ∧ n.tmod 10000 < 0) := by
    rw [Int.tmod_eq_emod]
    split
    · left; omega
    · right; constructor <;> first | (simp; done) | (simp; omega) | omega
  obtain ⟨v, hv⟩ : ∃ v, n % 10000 = v := ⟨_, rfl⟩
  rw [hv] at hmod h0 h8 ⊢
  clear hv hn
  have hc := conv_new [48 + v / 1000, 48 + v / 100 % 10, 48 + v / 10 % 10, 48 + v % 10] 4 rfl w
  simp only [List.map_cons, List.map_nil] at hc
  rcases hmod with hx | ⟨hx, hneg⟩
  · go_enter Try.func26, Try.ntmps26
    go_wp2_with fail
    go_ret2
    exact ⟨rfl, (Below.refl _ _).alloc (Nat.le_refl _) _⟩
  · have hneg' : v - 10000 < 0 := by omega
    have e1 : v - 10000 + 10000 = v := by omega
    clear hneg
    go_enter Try.func26, Try.ntmps26
    go_wp2_with fail
    go_ret2
    exact ⟨rfl, (Below.refl _ _).alloc (Nat.le_refl _) _⟩
end Go.Proofs.Ytmdjdpofpkgffaa

/- Single: the walk. -/
namespace Go.Proofs.Ytmdjdpofpkgffaa
open Go.ChangeShapes Go.WideShapes Go.ChangeAt Go.RowKit
open Split (Pu Keeps payM byt byt_lt headM doM numM digM bucM none8 scanF bodyM)
set_option linter.unusedVariables false
set_option linter.unusedSimpArgs false

/-- A policy of one step without a block. -/
theorem one_step {t : ByteArray} (h0 : 0 < t.size) (hs : t.size ≤ 120) (h41 : byt t 0 ≠ 41) (hh : headM t 0 = (t.size, 0, true)) :
    checkE t = 0 ∧ ∀ zs m, shrM t zs m = doM (Split.stM t 0) (pu0 zs m) := by
  have e1 : scanF t t.size 0 (-1) = ⟨t.size, -1, true, []⟩ := by
    rw [Split.scan_eq t t.size 0 (-1) (Nat.le_refl _)]
    simp [bodyM]
  have e0 : scanF t 0 0 (-1) = ⟨t.size, -1, true, [Split.stM t 0]⟩ := by
    rw [Split.scan_eq t 0 0 (-1) (Nat.zero_le _)]
    simp [bodyM, h0, h41, hh, e1]
  have hc : checkE t = 0 := by simp [checkE, e0, show ¬ 120 < t.size by omega]
  refine ⟨hc, fun zs m => ?_⟩
  rw [shr_sem hc]
  have hok : okJ t 0 = true := by simp [okJ, e0]
  rw [semF_step (Nat.zero_le _) hok ⟨h0, h41⟩]
  have hn : nxM t 0 = t.size := by simp [nxM, hh]
  rw [hn, semF_stop (by omega)]
  simp [stpM, hh]

theorem P_text {t : ByteArray} {k : Nat} (h2 : t.size = 2) (b0 : byt t 0 = 80) (b1 : byt t 1 = 97 + (k : Int)) (hk : k < 8) :
    checkE t = 0 ∧ ∀ zs m, shrM t zs m = payM (pu0 zs m) k 1000000000 := by
  have hb : bucM t 1 = 2 := Split.bucM_t (by rw [Split.buc_t]; omega)
  have hh : headM t 0 = (t.size, 0, true) := by simp [headM, b0, hb, h2]
  obtain ⟨h1, h3⟩ := one_step (by omega) (by omega) (by omega) hh
  refine ⟨h1, fun zs m => ?_⟩
  have e2 : ((97 : Int) + k - 97).toNat = k := by omega
  rw [h3 zs m]
  simp [Split.stM, b0, b1, doM, e2]

theorem C_text {t : ByteArray} {k : Nat} (h6 : t.size = 6) (b0 : byt t 0 = 67) (b1 : byt t 1 = 97 + (k : Int)) (hk : k < 8) (v : Int) (hv0 : 0 ≤ v) (hv : v < 10000)
    (b2 : byt t 2 = 48 + v / 1000) (b3 : byt t 3 = 48 + v / 100 % 10) (b4 : byt t 4 = 48 + v / 10 % 10) (b5 : byt t 5 = 48 + v % 10) :
    checkE t = 0 ∧ ∀ zs m, shrM t zs m = payM (pu0 zs m) k v := by
  have hb : bucM t 1 = 2 := Split.bucM_t (by rw [Split.buc_t]; omega)
  have d2 : Split.dig (byt t 2) = true := by rw [Split.dig_t]; omega
  have d3 : Split.dig (byt t 3) = true := by rw [Split.dig_t]; omega
  have d4 : Split.dig (byt t 4) = true := by rw [Split.dig_t]; omega
  have d5 : Split.dig (byt t 5) = true := by rw [Split.dig_t]; omega
  have hd : digM t 2 4 = 6 := by simp [digM, d2, d3, d4, d5]
  have hh : headM t 0 = (t.size, 0, true) := by simp [headM, b0, hb, h6, hd]
  obtain ⟨h1, h3⟩ := one_step (by omega) (by omega) (by omega) hh
  refine ⟨h1, fun zs m => ?_⟩
  have e2 : ((97 : Int) + k - 97).toNat = k := by omega
  have hn : numM t 2 4 = v := by
    simp only [numM, Nat.add_zero, Nat.reduceAdd, b2, b3, b4, b5]
    omega
  rw [h3 zs m]
  simp [Split.stM, b0, b1, doM, e2, hn]

theorem lleast_any (a b : Int) (w : World) : Calls Try.prog 27 #[.int .i64 a, .int .i64 b] w fun e w' => e = .returned (.int .i64 (Split.lea a b)) ∧ w' = w := by
  by_cases h : a < b
  · have e : Split.lea a b = a := by simp [Split.lea, h]
    rw [e]; clear e
    go_enter Try.func27, Try.ntmps27
    go_wp2
    go_ret
    exact ⟨rfl, rfl⟩
  · have e : Split.lea a b = b := by simp [Split.lea, h]
    rw [e]; clear e
    go_enter Try.func27, Try.ntmps27
    go_wp2
    go_ret
    exact ⟨rfl, rfl⟩

set_option maxRecDepth 100000 in
set_option maxHeartbeats 4000000 in
theorem one_true (a' : Option Addr) (c : Nat) (L : List Int) (k : Nat) (x m : Int) (w : World) (hL : Ints w a' 8 L) (hk : k < 8) (hx : L.getD k 0 = x) (h0 : ∀ i, i ≠ k → L.getD i 0 = 0)
    (hx0 : 0 ≤ x) (hx9 : x ≤ 1000000000) (hm0 : 0 ≤ m) (hm : m ≤ 1000000000) :
    Calls Try.prog 28 #[.agg #[.slice a' 8 c, .int .i64 (m - x), .bool true], .int .i64 k, .int .i64 x, .int .i64 m] w fun e w' => e = .returned (.bool true) ∧ Below w.heap.size w w' := by
  obtain ⟨b1, o1, rfl, hc1⟩ := hL.2 (by omega)
  have hb1 : b1 < w.heap.size := by
    have := hc1 0 (by omega)
    by_cases hx : b1 < w.heap.size
    · exact hx
    · simp [World.cell?, hx] at this
  have HC1 := hide hc1
  have H0 := hide h0
  have HX := hide hx
  clear hL hc1 h0 hx
  obtain ⟨W, hW⟩ : ∃ W, w.alloc (.cells #[.slice (some ⟨b1, o1, none⟩) 8 c, .int .i64 (m - x), .bool true] 38) = W := ⟨_, rfl⟩
  have HBW : Hid (Below w.heap.size w W) := by
    show Below w.heap.size w W
    rw [← hW]; exact (Below.refl _ _).alloc (Nat.le_refl _) _
  have hrow : W.heap[w.heap.size]? = some (.cells #[.slice (some ⟨b1, o1, none⟩) 8 c, .int .i64 (m - x), .bool true] 38 (0, 0)) := by rw [← hW]; exact heap_alloc_new _ _
  have HROW := hide hrow
  have p0 := cell_of_row W w.heap.size 0 _ _ _ hrow
  have p1 := cell_of_row W w.heap.size 1 _ _ _ hrow
  have p2 := cell_of_row W w.heap.size 2 _ _ _ hrow
  simp at p0 p1 p2
  have ck : W.cell? ⟨b1, o1 + k, none⟩ = some (.int .i64 x) := by
    rw [(unhide HBW).cell (p := ⟨b1, o1 + k, none⟩) hb1, unhide HC1 k hk, unhide HX]
  have ckw : w.cell? ⟨b1, o1 + k, none⟩ = some (.int .i64 x) := by rw [unhide HC1 k hk, unhide HX]
  rw [← hW] at ck
  clear p0 p1 p2
  have hk' : (k : Int) < 8 := by omega
  have k1 : (x != x) = false := by simp
  have k2 : ((m - x) != (m - x)) = false := by simp
  clear hrow
  have HW := hide hW
  clear hW
  go_enter Try.func28, Try.ntmps28
  go_wp2_with fail
  rw [unhide HW]
  clear ck ckw k1 k2
  go_loopw [9] (fun ii wr => ∃ i : Nat, i ≤ 8 ∧ ii = .int .i64 i ∧ Hid (∃ n, wr = W.drewN n)) (fun ii _ => 8 - (intOf ii).toNat)
  case atStart => exact ⟨0, by omega, rfl, ⟨0, rfl⟩⟩
  case round =>
    obtain ⟨i, hi, rfl, hw⟩ := hrel
    have hrow : wr.heap[w.heap.size]? = some (.cells #[.slice (some ⟨b1, o1, none⟩) 8 c, .int .i64 (m - x), .bool true] 38 (0, 0)) := by
      obtain ⟨n, hn⟩ := unhide hw
      rw [hn]; exact unhide HROW
    have p0 := cell_of_row wr w.heap.size 0 _ _ _ hrow
    simp at p0
    clear hrow
    by_cases hlt : i < 8
    · have hlt' : (i : Int) < 8 := by omega
      have cx : wr.cell? ⟨b1, o1 + i, none⟩ = some (.int .i64 (L.getD i 0)) := by
        obtain ⟨n, hn⟩ := unhide hw
        rw [hn]
        show W.cell? _ = _
        rw [(unhide HBW).cell (p := ⟨b1, o1 + i, none⟩) hb1]
        exact unhide HC1 i hlt
      by_cases hik : i = k
      · subst hik
        generalize L.getD i 0 = y at cx
        have e1 : ((i : Int) != (i : Int)) = false := by simp
        go_wp2_with fail
        try (go_quiet (fail))
        try (go_wp2_with fail)
        go_roundw
        case rel => exact ⟨i + 1, by omega, by go_num, hw⟩
        case measure => simp [intOf]; omega
      · rw [unhide H0 i hik] at cx
        have e1 : ((i : Int) != (k : Int)) = true := by simp; omega
        go_wp2_with fail
        try (go_quiet (fail))
        try (go_wp2_with fail)
        go_roundw
        case rel => exact ⟨i + 1, by omega, by go_num, hw⟩
        case measure => simp [intOf]; omega
    · go_wp2_with fail
      go_ret
      obtain ⟨n, hn⟩ := unhide hw
      rw [hn]
      exact ⟨rfl, below_drewN (unhide HBW) n⟩

theorem cell_blk {w : World} {b o : Nat} {v : Value} (h : w.cell? ⟨b, o, none⟩ = some v) : b < w.heap.size := by
  by_cases hx : b < w.heap.size
  · exact hx
  · simp [World.cell?, hx] at h
theorem str_app (xs ys : List Int) : strOfNums xs ++ strOfNums ys = strOfNums (xs ++ ys) := by
  apply ByteArray.ext
  simp [strOfNums, ByteArray.data_append]
theorem str_size (xs : List Int) : (strOfNums xs).size = xs.length := by simp [strOfNums, ByteArray.size]
theorem str_byt (xs : List Int) (h : ∀ x ∈ xs, 0 ≤ x ∧ x ≤ 255) (i : Nat) (hi : i < xs.length) : byt (strOfNums xs) i = xs.getD i 0 := by
  have hs := str_size xs
  rw [byt_lt (show i < (strOfNums xs).size by omega)]
  have hx := h xs[i] (List.getElem_mem hi)
  have e : (strOfNums xs)[i]'(by omega) = UInt8.ofNat (xs[i]).toNat := by
    show (strOfNums xs).data[i]'(by simpa [strOfNums] using hi) = _
    simp [strOfNums]
  rw [e, List.getD_eq_getElem?_getD, List.getElem?_eq_getElem hi]
  simp
  omega

theorem pay_one {zs : List Int} {m : Int} {k : Nat} (hg : givenE zs m = 0) (hk : k < 8) (most : Int) (hm : 0 ≤ most) (s : Int) (hs : s = Split.lea (Split.lea m (zs.getD k 0)) most) :
    (payM (pu0 zs m) k most).hand = m - s ∧ (payM (pu0 zs m) k most).paid.getD k 0 = s ∧ (∀ i, i ≠ k → (payM (pu0 zs m) k most).paid.getD i 0 = 0) ∧ (payM (pu0 zs m) k most).paid.length = 8 ∧ 0 ≤ s ∧ s ≤ 1000000000 := by
  obtain ⟨h1, h2, h3, h4⟩ := given_ok hg
  have hz := h2 k
  have e : Split.paySum (pu0 zs m) k most = s := by
    rw [hs]
    show Split.lea (Split.lea m most) (zs.getD k 0) = _
    exact (lea_swap _ _ _).symm
  have hb : 0 ≤ s ∧ s ≤ 1000000000 := by
    rw [hs]
    unfold Split.lea
    repeat' split
    all_goals omega
  have r0 : ∀ i, (List.replicate 8 (0 : Int)).getD i 0 = 0 := by
    intro i
    rw [List.getD_eq_getElem?_getD, List.getElem?_replicate]
    split <;> simp
  refine ⟨by show m - Split.paySum (pu0 zs m) k most = m - s; rw [e], ?_, fun i hi => ?_, by simp [payM, pu0], hb.1, hb.2⟩
  · simp only [payM, e]
    show ((List.replicate 8 (0 : Int)).set k ((List.replicate 8 (0 : Int)).getD k 0 + s)).getD k 0 = s
    rw [r0, List.getD_eq_getElem?_getD, List.getElem?_set_self (by simpa using hk)]
    simp
  · simp only [payM, e]
    show ((List.replicate 8 (0 : Int)).set k ((List.replicate 8 (0 : Int)).getD k 0 + s)).getD i 0 = 0
    rw [List.getD_eq_getElem?_getD, List.getElem?_set_ne (by omega), ← List.getD_eq_getElem?_getD, r0]

theorem single_texts (k : Nat) (hk : k < 8) (v : Int) (h0 : 0 ≤ v) (h9 : v < 10000) :
    ((⟨#[80]⟩ ++ strOfNums [97 + (k : Int)] : ByteArray).size = 2 ∧ checkE (⟨#[80]⟩ ++ strOfNums [97 + (k : Int)]) = 0 ∧ ∀ zs m, shrM (⟨#[80]⟩ ++ strOfNums [97 + (k : Int)]) zs m = payM (pu0 zs m) k 1000000000) ∧
    ((⟨#[67]⟩ ++ strOfNums [97 + (k : Int)] ++ strOfNums [48 + v / 1000, 48 + v / 100 % 10, 48 + v / 10 % 10, 48 + v % 10] : ByteArray).size = 6 ∧
     checkE (⟨#[67]⟩ ++ strOfNums [97 + (k : Int)] ++ strOfNums [48 + v / 1000, 48 + v / 100 % 10, 48 + v / 10 % 10, 48 + v % 10]) = 0 ∧
     ∀ zs m, shrM (⟨#[67]⟩ ++ strOfNums [97 + (k : Int)] ++ strOfNums [48 + v / 1000, 48 + v / 100 % 10, 48 + v / 10 % 10, 48 + v % 10]) zs m = payM (pu0 zs m) k v) := by
  have e80 : (⟨#[80]⟩ : ByteArray) = strOfNums [80] := rfl
  have e67 : (⟨#[67]⟩ : ByteArray) = strOfNums [67] := rfl
  rw [e80, e67, str_app, str_app, str_app]
  simp only [List.cons_append, List.nil_append]
  constructor
  · have hb := str_byt [80, 97 + (k : Int)] (by simp; omega)
    have hz := str_size [80, 97 + (k : Int)]
    exact ⟨hz, P_text hz (hb 0 (by simp)) (hb 1 (by simp)) hk⟩
  · have hb := str_byt [67, 97 + (k : Int), 48 + v / 1000, 48 + v / 100 % 10, 48 + v / 10 % 10, 48 + v % 10] (by simp; omega)
    have hz := str_size [67, 97 + (k : Int), 48 + v / 1000, 48 + v / 100 % 10, 48 + v / 10 % 10, 48 + v % 10]
    exact ⟨hz, C_text hz (hb 0 (by simp)) (hb 1 (by simp)) hk v h0 h9 (hb 2 (by simp)) (hb 3 (by simp)) (hb 4 (by simp)) (hb 5 (by simp))⟩

set_option maxRecDepth 100000 in
set_option maxHeartbeats 4000000 in
theorem single_walk (bk mo : Int) (a : Option Addr) (len cap : Nat) (zs : List Int) (m : Int) (w : World) (hbk : (Lit.int .i64 bk).wf = true) (hmo : (Lit.int .i64 mo).wf = true) (h : Ints w a len zs) (hwf : ∀ n ∈ zs, (Lit.int .i64 n).wf = true) (hr : len * 8 ≤ 140737488351232) (hm : (Lit.int .i64 m).wf = true) :
    Calls Try.prog 7 #[.int .i64 bk, .int .i64 mo, .slice a len cap, .int .i64 m] w fun e w' => e = .returned (.bool true) ∧ Below w.heap.size w w' := by
  have HI := hide h
  have HL := hide (letter_any bk w)
  have HF := hide (four_any mo · hmo)
  clear h hwf hm hbk hmo
  obtain ⟨k, hk, hk8⟩ : ∃ k : Nat, bk % 8 = k ∧ k < 8 := ⟨(bk % 8).toNat, by omega, by omega⟩
  obtain ⟨v, hv, hv0, hv9⟩ : ∃ v : Int, mo % 10000 = v ∧ 0 ≤ v ∧ v < 10000 := ⟨_, rfl, by omega, by omega⟩
  rw [hk] at HL
  rw [hv] at HF
  clear hk hv
  obtain ⟨⟨zP, cP, sP⟩, zC, cC, sC⟩ := single_texts k hk8 v hv0 hv9
  obtain ⟨tP, htP⟩ : ∃ t, (⟨#[80]⟩ ++ strOfNums [97 + (k : Int)] : ByteArray) = t := ⟨_, rfl⟩
  obtain ⟨tC, htC⟩ : ∃ t, (⟨#[67]⟩ ++ strOfNums [97 + (k : Int)] ++ strOfNums [48 + v / 1000, 48 + v / 100 % 10, 48 + v / 10 % 10, 48 + v % 10] : ByteArray) = t := ⟨_, rfl⟩
  rw [htP] at zP cP sP
  rw [htC] at zC cC sC
  have SP := hide (share_any tP zs m (by omega))
  have SC := hide (share_any tC zs m (by omega))
  by_cases hg : givenE zs m = 0
  · have eP : shE tP zs m = 0 := by simp [shE, cP, hg]
    have eC : shE tC zs m = 0 := by simp [shE, cC, hg]
    have lP : shL tP zs m = (payM (pu0 zs m) k 1000000000).paid := by simp [shL, eP, sP]
    have lC : shL tC zs m = (payM (pu0 zs m) k v).paid := by simp [shL, eC, sC]
    have rP : shR tP zs m = (payM (pu0 zs m) k 1000000000).hand := by simp [shR, eP, sP]
    have rC : shR tC zs m = (payM (pu0 zs m) k v).hand := by simp [shR, eC, sC]
    obtain ⟨hz8, hzb, hm0, hm9⟩ := given_ok hg
    have hzk := hzb k
    obtain ⟨x, hx⟩ : ∃ x, Split.lea m (zs.getD k 0) = x := ⟨_, rfl⟩
    obtain ⟨y, hy⟩ : ∃ y, Split.lea x v = y := ⟨_, rfl⟩
    have hx9 : x = Split.lea x 1000000000 := by
      rw [← hx]
      unfold Split.lea
      repeat' split
      all_goals omega
    have PP := pay_one hg hk8 1000000000 (by omega) x (by rw [hx]; exact hx9)
    have PC := pay_one hg hk8 v hv0 y (by rw [hx]; exact hy.symm)
    rw [lP, rP, eP, PP.1] at SP
    rw [lC, rC, eC, PC.1] at SC
    have h8 : len = 8 := by rw [← (unhide HI).1, hz8]
    subst h8
    generalize (payM (pu0 zs m) k 1000000000).paid = LP at SP PP
    generalize (payM (pu0 zs m) k v).paid = LC at SC PC
    generalize shP tP zs m = pP at SP
    generalize shP tC zs m = pC at SC
    obtain ⟨_, q1, q2, q3, q4, q5⟩ := PP
    obtain ⟨_, r1, r2, r3, r4, r5⟩ := PC
    have Q := hide (And.intro q1 (And.intro q2 q3))
    have R := hide (And.intro r1 (And.intro r2 r3))
    have HX := hide hx
    have HY := hide hy
    have HG := hide hg
    obtain ⟨b1, o1, hae, hc1⟩ := (unhide HI).2 (by omega)
    have HC := hide (hc1 k hk8)
    clear q1 q2 q3 r1 r2 r3 hx hy hg eP eC lP lC rP rC sP sC cP cC zP zC hz8 hzb hx9 hc1
    subst hae
    have hbl : b1 < w.heap.size := cell_blk (unhide HC)
    go_enter Try.func7, Try.ntmps7
    go_wp2_with fail
    refine (unhide HL).mono ?_
    rintro e w1 ⟨rfl, hb1⟩
    have B1 := hide hb1
    clear hb1 HL
    go_wp2_with fail
    refine (unhide HF _).mono ?_
    rintro e w2 ⟨rfl, hb2⟩
    have B2 := hide (below_step (unhide B1) hb2)
    clear hb2 HF B1
    go_wp2_with fail
    try rw [htP]
    refine (lshare_of tP zs m _ _ _ _ (unhide SP) _ _ _ _ ((unhide HI).below (unhide B2)) hr).mono ?_
    rintro e w3 ⟨a3, n3, c3, rfl, hi3, hb3⟩
    have hn3 : n3 = 8 := by rw [← hi3.1]; exact (unhide Q).2.2
    subst hn3
    have I3 := hide hi3
    have B3 := hide (below_step (unhide B2) hb3)
    clear hi3 hb3 B2 SP
    go_wp2_with fail
    try rw [htC]
    obtain ⟨W3, hW3⟩ : ∃ W, w3.alloc (.cells #[.slice a3 8 c3, .int .i64 (m - x), .bool true] 38) = W := ⟨_, rfl⟩
    have hr3 : W3.heap[w3.heap.size]? = some (.cells #[.slice a3 8 c3, .int .i64 (m - x), .bool true] 38 (0, 0)) := by rw [← hW3]; exact heap_alloc_new _ _
    have hb3 : Below w3.heap.size w3 W3 := by rw [← hW3]; exact (Below.refl _ _).alloc (Nat.le_refl _) _
    rw [hW3]
    have J3 := hide ((unhide I3).below hb3)
    have C3 := hide (below_step (unhide B3) hb3)
    clear hW3 I3 B3 hb3
    obtain ⟨g3, hg3⟩ : ∃ g, w3.heap.size = g := ⟨_, rfl⟩
    rw [hg3] at hr3 ⊢
    clear hg3
    have R3 := hide hr3
    have L3 := hide (cell_lt hr3)
    clear hr3
    refine (lshare_of tC zs m _ _ _ _ (unhide SC) _ _ _ _ ((unhide HI).below (unhide C3)) hr).mono ?_
    rintro e w4 ⟨a4, n4, c4, rfl, hi4, hb4⟩
    have hn4 : n4 = 8 := by rw [← hi4.1]; exact (unhide R).2.2
    subst hn4
    have I4 := hide hi4
    have J4 := hide ((unhide J3).below hb4)
    have B4 := hide (below_step (unhide C3) hb4)
    have R4 := hide ((hb4.block g3 (unhide L3)).trans (unhide R3))
    clear hi4 hb4 C3 SC J3 R3 L3
    go_wp2_with fail
    obtain ⟨W4, hW4⟩ : ∃ W, w4.alloc (.cells #[.slice a4 8 c4, .int .i64 (m - y), .bool true] 38) = W := ⟨_, rfl⟩
    have hr4 : W4.heap[w4.heap.size]? = some (.cells #[.slice a4 8 c4, .int .i64 (m - y), .bool true] 38 (0, 0)) := by rw [← hW4]; exact heap_alloc_new _ _
    have hb4 : Below w4.heap.size w4 W4 := by rw [← hW4]; exact (Below.refl _ _).alloc (Nat.le_refl _) _
    rw [hW4]
    have K4 := hide ((unhide I4).below hb4)
    have M4 := hide ((unhide J4).below hb4)
    have C4 := hide (below_step (unhide B4) hb4)
    have S4 := hide ((hb4.block g3 (cell_lt (unhide R4))).trans (unhide R4))
    clear hW4 I4 B4 hb4 J4 R4
    obtain ⟨g4, hg4⟩ : ∃ g, w4.heap.size = g := ⟨_, rfl⟩
    rw [hg4] at hr4 ⊢
    clear hg4
    have R4 := hide hr4
    clear hr4
    refine (fit_empty _ 8 cap zs m _ ((unhide HI).below (unhide C4)) hr).mono ?_
    rintro e w5 ⟨rfl, hw5⟩
    have hw5 := hw5.symm
    subst hw5
    rw [unhide HG]
    have ck : W4.cell? ⟨b1, o1 + k, none⟩ = some (.int .i64 (zs.getD k 0)) := ((unhide C4).cell (p := ⟨b1, o1 + k, none⟩) hbl).trans (unhide HC)
    generalize zs.getD k 0 = zk at ck HX hzk
    have hk' : (k : Int) < 8 := by omega
    have p0 := cell_of_row W4 g3 0 _ _ _ (unhide S4)
    have p1 := cell_of_row W4 g3 1 _ _ _ (unhide S4)
    have p2 := cell_of_row W4 g3 2 _ _ _ (unhide S4)
    simp at p0 p1 p2
    go_wp2_with fail
    refine (lleast_any m zk _).mono ?_
    rintro e w6 ⟨rfl, hw6⟩
    have hw6 := hw6.symm
    subst hw6
    rw [unhide HX]
    clear ck
    go_wp2_with fail
    refine (one_true a3 c3 LP k x m _ (unhide M4) hk8 (unhide Q).1 (unhide Q).2.1 q4 q5 hm0 hm9).mono ?_
    rintro e w7 ⟨rfl, hb7⟩
    have K7 := hide ((unhide K4).below hb7)
    have C7 := hide (below_step (unhide C4) hb7)
    have R7 := hide ((hb7.block g4 (cell_lt (unhide R4))).trans (unhide R4))
    clear hb7 K4 C4 R4 p0 p1 p2
    have p0 := cell_of_row w7 g4 0 _ _ _ (unhide R7)
    have p1 := cell_of_row w7 g4 1 _ _ _ (unhide R7)
    have p2 := cell_of_row w7 g4 2 _ _ _ (unhide R7)
    simp at p0 p1 p2
    go_wp2_with fail
    go_region_with (first
      | (go_at_call 27; refine (lleast_any x v _).mono ?_; rintro e w8 ⟨rfl, rfl⟩; rw [unhide HY])
      | (go_at_call 28; refine (one_true a4 c4 LC k y m _ (by exact (unhide K7).below ((Below.refl _ _).drew)) hk8 (unhide R).1 (unhide R).2.1 r4 r5 hm0 hm9).mono ?_; rintro e w9 ⟨rfl, hb9⟩; have C9 := hide (below_step (unhide C7).drew hb9); clear hb9))
    all_goals (go_wp2_with fail; go_ret; exact ⟨rfl, unhide C9⟩)
  · have eP : shE tP zs m = givenE zs m := by simp [shE, cP]
    have eC : shE tC zs m = givenE zs m := by simp [shE, cC]
    have lP : shL tP zs m = [] := by simp [shL, eP, hg]
    have lC : shL tC zs m = [] := by simp [shL, eC, hg]
    have rP : shR tP zs m = 0 := by simp [shR, eP, hg]
    have rC : shR tC zs m = 0 := by simp [shR, eC, hg]
    rw [lP, rP, eP] at SP
    rw [lC, rC, eC] at SC
    have hgb : (givenE zs m == 0) = false := by simpa using hg
    have HG := hide hgb
    clear eP eC lP lC rP rC sP sC cP cC zP zC hg hgb
    generalize shP tP zs m = pP at SP
    generalize shP tC zs m = pC at SC
    go_enter Try.func7, Try.ntmps7
    go_wp2_with fail
    refine (unhide HL).mono ?_
    rintro e w1 ⟨rfl, hb1⟩
    have B1 := hide hb1
    clear hb1 HL
    go_wp2_with fail
    refine (unhide HF _).mono ?_
    rintro e w2 ⟨rfl, hb2⟩
    have B2 := hide (below_step (unhide B1) hb2)
    clear hb2 HF B1
    go_wp2_with fail
    try rw [htP]
    refine (lshare_of tP zs m _ _ _ _ (unhide SP) _ _ _ _ ((unhide HI).below (unhide B2)) hr).mono ?_
    rintro e w3 ⟨a3, n3, c3, rfl, hi3, hb3⟩
    rw [unhide HG, Bool.false_and]
    have B3 := hide (below_step (unhide B2) hb3)
    clear hi3 hb3 B2 SP
    go_wp2_with fail
    try rw [htC]
    obtain ⟨W3, hW3⟩ : ∃ W, w3.alloc (.cells #[.slice a3 n3 c3, .int .i64 0, .bool false] 38) = W := ⟨_, rfl⟩
    have hr3 : W3.heap[w3.heap.size]? = some (.cells #[.slice a3 n3 c3, .int .i64 0, .bool false] 38 (0, 0)) := by rw [← hW3]; exact heap_alloc_new _ _
    have hb3 : Below w3.heap.size w3 W3 := by rw [← hW3]; exact (Below.refl _ _).alloc (Nat.le_refl _) _
    rw [hW3]
    have C3 := hide (below_step (unhide B3) hb3)
    clear hW3 B3 hb3
    obtain ⟨g3, hg3⟩ : ∃ g, w3.heap.size = g := ⟨_, rfl⟩
    rw [hg3] at hr3 ⊢
    clear hg3
    have R3 := hide hr3
    have L3 := hide (cell_lt hr3)
    clear hr3
    refine (lshare_of tC zs m _ _ _ _ (unhide SC) _ _ _ _ ((unhide HI).below (unhide C3)) hr).mono ?_
    rintro e w4 ⟨a4, n4, c4, rfl, hi4, hb4⟩
    rw [unhide HG, Bool.false_and]
    have B4 := hide (below_step (unhide C3) hb4)
    have R4 := hide ((hb4.block g3 (unhide L3)).trans (unhide R3))
    clear hi4 hb4 C3 SC R3 L3
    go_wp2_with fail
    obtain ⟨W4, hW4⟩ : ∃ W, w4.alloc (.cells #[.slice a4 n4 c4, .int .i64 0, .bool false] 38) = W := ⟨_, rfl⟩
    have hr4 : W4.heap[w4.heap.size]? = some (.cells #[.slice a4 n4 c4, .int .i64 0, .bool false] 38 (0, 0)) := by rw [← hW4]; exact heap_alloc_new _ _
    have hb4 : Below w4.heap.size w4 W4 := by rw [← hW4]; exact (Below.refl _ _).alloc (Nat.le_refl _) _
    rw [hW4]
    have C4 := hide (below_step (unhide B4) hb4)
    have S4 := hide ((hb4.block g3 (cell_lt (unhide R4))).trans (unhide R4))
    clear hW4 B4 hb4 R4
    obtain ⟨g4, hg4⟩ : ∃ g, w4.heap.size = g := ⟨_, rfl⟩
    rw [hg4] at hr4 ⊢
    clear hg4
    have R4 := hide hr4
    clear hr4
    refine (fit_empty _ _ cap zs m _ ((unhide HI).below (unhide C4)) hr).mono ?_
    rintro e w5 ⟨rfl, hw5⟩
    have hw5 := hw5.symm
    subst hw5
    rw [unhide HG]
    have p2 := cell_of_row W4 g3 2 _ _ _ (unhide S4)
    have q2 := cell_of_row W4 g4 2 _ _ _ (unhide R4)
    simp at p2 q2
    go_wp2_with fail
    go_ret
    exact ⟨rfl, unhide C4⟩
end Go.Proofs.Ytmdjdpofpkgffaa
