/- RefPay -/
import Derived.Test.YtbpolcnjojlkjabPack9
import Derived.Test.YtbpolcnjojlkjabPack15

/- splitref's State in memory; least, pay, upto, number, past. -/
namespace Go.Proofs.Ytbpolcnjojlkjab
open Go.ChangeShapes Go.WideShapes Go.ChangeAt Go.RowKit
open Split (Pu lea paySum payM Keeps byt byt_lt numM dig_t digM)
set_option linter.unusedVariables false
set_option linter.unusedSimpArgs false

/-- The document's state: block T, its two lists in blocks L and Q. -/
structure RSt (w : World) (T L Q : Nat) (p : Pu) : Prop where
  lo : p.owed.length = 8
  lp : p.paid.length = 8
  n1 : T ≠ L
  n2 : T ≠ Q
  n3 : L ≠ Q
  row : w.heap[T]? = some (.cells #[.int .i64 p.hand, .slice (some ⟨L, 0, none⟩) 8 8, .slice (some ⟨Q, 0, none⟩) 8 8] 55 (0, 0))
  rl : w.heap[L]? = some (.cells (p.owed.map (Value.int .i64)).toArray 3 (0, 0))
  rq : w.heap[Q]? = some (.cells (p.paid.map (Value.int .i64)).toArray 3 (0, 0))

/-- Nothing old has turned but these three blocks. -/
structure On (T L Q : Nat) (w w' : World) : Prop where
  os : w'.os = w.os
  tape : w'.tape = w.tape
  output : w'.output = w.output
  size : w.heap.size ≤ w'.heap.size
  block : ∀ k, k < w.heap.size → k ≠ T → k ≠ L → k ≠ Q → w'.heap[k]? = w.heap[k]?

section
variable {T L Q : Nat} {a b c : World}
theorem On.refl (T L Q : Nat) (a : World) : On T L Q a a := ⟨rfl, rfl, rfl, Nat.le_refl _, fun _ _ _ _ _ => rfl⟩
theorem On.trans (h : On T L Q a b) (k : On T L Q b c) : On T L Q a c :=
  ⟨k.os.trans h.os, k.tape.trans h.tape, k.output.trans h.output, Nat.le_trans h.size k.size, fun i hi h1 h2 h3 => (k.block i (Nat.lt_of_lt_of_le hi h.size) h1 h2 h3).trans (h.block i hi h1 h2 h3)⟩
theorem On.drewN (h : On T L Q a b) (n : Nat) : On T L Q a (b.drewN n) := ⟨h.os, h.tape, h.output, h.size, h.block⟩
theorem On.alloc (h : On T L Q a b) (o : Obj) : On T L Q a (b.alloc o) :=
  h.trans ⟨rfl, rfl, rfl, by simp, fun k hk _ _ _ => Below.heap_alloc _ _ _ hk⟩
theorem On.set (h : On T L Q a b) {x : Addr} (v : Value) (hx : x.block = T ∨ x.block = L ∨ x.block = Q ∨ a.heap.size ≤ x.block) : On T L Q a (b.setCell x v) :=
  ⟨h.os, h.tape, h.output, by simpa [World.setCell] using h.size, fun k hk h1 h2 h3 => (Below.heap_setCell _ _ _ _ (by omega)).trans (h.block k hk h1 h2 h3)⟩
theorem On.below {B : Nat} (h : On T L Q a b) (hB : B ≤ a.heap.size) (h1 : B ≤ T) (h2 : B ≤ L) (h3 : B ≤ Q) : Below B a b :=
  ⟨h.os, h.tape, h.output, h.size, fun k hk => h.block k (by omega) (by omega) (by omega) (by omega)⟩
end

section
variable {w : World} {T L Q : Nat} {p : Pu}
theorem RSt.ch (h : RSt w T L Q p) : w.cell? ⟨T, 0, none⟩ = some (.int .i64 p.hand) := by rw [cell_of_row w T 0 _ _ _ h.row]; rfl
theorem RSt.cl (h : RSt w T L Q p) : w.cell? ⟨T, 1, none⟩ = some (.slice (some ⟨L, 0, none⟩) 8 8) := by rw [cell_of_row w T 1 _ _ _ h.row]; rfl
theorem RSt.cq (h : RSt w T L Q p) : w.cell? ⟨T, 2, none⟩ = some (.slice (some ⟨Q, 0, none⟩) 8 8) := by rw [cell_of_row w T 2 _ _ _ h.row]; rfl
theorem RSt.co (h : RSt w T L Q p) (i : Nat) (hi : i < 8) : w.cell? ⟨L, i, none⟩ = some (.int .i64 (p.owed.getD i 0)) := by
  have h1 := h.lo
  rw [cell_of_row w L _ _ _ _ h.rl]
  simp [List.getElem?_eq_getElem (show i < p.owed.length by omega)]
theorem RSt.cp (h : RSt w T L Q p) (i : Nat) (hi : i < 8) : w.cell? ⟨Q, i, none⟩ = some (.int .i64 (p.paid.getD i 0)) := by
  have h1 := h.lp
  rw [cell_of_row w Q _ _ _ _ h.rq]
  simp [List.getElem?_eq_getElem (show i < p.paid.length by omega)]
theorem RSt.f0 (h : RSt w T L Q p) (i : Nat) : w.frozen? ⟨T, i, none⟩ = false := frozen_of_row w T i _ _ h.row
theorem RSt.fl (h : RSt w T L Q p) (i : Nat) : w.frozen? ⟨L, i, none⟩ = false := frozen_of_row w L i _ _ h.rl
theorem RSt.fq (h : RSt w T L Q p) (i : Nat) : w.frozen? ⟨Q, i, none⟩ = false := frozen_of_row w Q i _ _ h.rq
theorem RSt.other {w' : World} (h : RSt w T L Q p) (e1 : w'.heap[T]? = w.heap[T]?) (e2 : w'.heap[L]? = w.heap[L]?) (e3 : w'.heap[Q]? = w.heap[Q]?) : RSt w' T L Q p :=
  ⟨h.lo, h.lp, h.n1, h.n2, h.n3, e1.trans h.row, e2.trans h.rl, e3.trans h.rq⟩
theorem RSt.lt (h : RSt w T L Q p) : T < w.heap.size ∧ L < w.heap.size ∧ Q < w.heap.size := ⟨cell_lt h.row, cell_lt h.rl, cell_lt h.rq⟩
theorem RSt.alloc (h : RSt w T L Q p) (o : Obj) : RSt (w.alloc o) T L Q p :=
  h.other (Below.heap_alloc _ _ _ h.lt.1) (Below.heap_alloc _ _ _ h.lt.2.1) (Below.heap_alloc _ _ _ h.lt.2.2)
theorem RSt.off (h : RSt w T L Q p) {x : Addr} (v : Value) (h1 : x.block ≠ T) (h2 : x.block ≠ L) (h3 : x.block ≠ Q) : RSt (w.setCell x v) T L Q p :=
  h.other (Below.heap_setCell _ _ _ _ (Ne.symm h1)) (Below.heap_setCell _ _ _ _ (Ne.symm h2)) (Below.heap_setCell _ _ _ _ (Ne.symm h3))
theorem RSt.drewN (h : RSt w T L Q p) (n : Nat) : RSt (w.drewN n) T L Q p := h.other rfl rfl rfl
theorem RSt.hand (h : RSt w T L Q p) (x : Int) : RSt (w.setCell ⟨T, 0, none⟩ (.int .i64 x)) T L Q ⟨x, p.held, p.owed, p.paid⟩ := by
  refine ⟨h.lo, h.lp, h.n1, h.n2, h.n3, ?_, ?_, ?_⟩
  · rw [heap_setCell_same w T 0 _ _ _ h.row]; rfl
  · exact (Below.heap_setCell _ _ _ _ (Ne.symm h.n1)).trans h.rl
  · exact (Below.heap_setCell _ _ _ _ (Ne.symm h.n2)).trans h.rq
theorem RSt.owe (h : RSt w T L Q p) (i : Nat) (x : Int) : RSt (w.setCell ⟨L, i, none⟩ (.int .i64 x)) T L Q ⟨p.hand, p.held, p.owed.set i x, p.paid⟩ := by
  refine ⟨by simp [h.lo], h.lp, h.n1, h.n2, h.n3, ?_, ?_, ?_⟩
  · exact (Below.heap_setCell _ _ _ _ h.n1).trans h.row
  · rw [heap_setCell_same w L i _ _ _ h.rl]; simp [List.map_set]
  · exact (Below.heap_setCell _ _ _ _ (Ne.symm h.n3)).trans h.rq
theorem RSt.pays (h : RSt w T L Q p) (i : Nat) (x : Int) : RSt (w.setCell ⟨Q, i, none⟩ (.int .i64 x)) T L Q ⟨p.hand, p.held, p.owed, p.paid.set i x⟩ := by
  refine ⟨h.lo, by simp [h.lp], h.n1, h.n2, h.n3, ?_, ?_, ?_⟩
  · exact (Below.heap_setCell _ _ _ _ h.n2).trans h.row
  · exact (Below.heap_setCell _ _ _ _ h.n3).trans h.rl
  · rw [heap_setCell_same w Q i _ _ _ h.rq]; simp [List.map_set]
end

theorem rleast_any (a b : Int) (w : World) : Calls Try.prog 46 #[.int .i64 a, .int .i64 b] w fun e w' => e = .returned (.int .i64 (lea a b)) ∧ w' = w := by
  by_cases h : a < b
  · have e : lea a b = a := by simp [lea, h]
    rw [e]; clear e
    go_enter Try.func46, Try.ntmps46
    go_wp2
    go_ret
    exact ⟨rfl, rfl⟩
  · have e : lea a b = b := by simp [lea, h]
    rw [e]; clear e
    go_enter Try.func46, Try.ntmps46
    go_wp2
    go_ret
    exact ⟨rfl, rfl⟩

/-- x is paid to bucket i. -/
def rpay (p : Pu) (i : Nat) (x : Int) : Pu := ⟨p.hand - x, p.held, p.owed.set i (p.owed.getD i 0 - x), p.paid.set i (p.paid.getD i 0 + x)⟩

set_option maxHeartbeats 4000000 in
theorem rpay_any (T L Q : Nat) (p : Pu) (M : Int) (o0 : List Int) (i : Nat) (x : Int) (w : World) (h : RSt w T L Q p) (hk : Keeps M o0 p) (hi : i < 8) (hx : 0 ≤ x) (hx' : x ≤ 1000000000) :
    Calls Try.prog 47 #[.pointer (some ⟨T, 0, none⟩), .int .i64 i, .int .i64 x] w fun e w' => e = .returned (.tuple #[]) ∧ RSt w' T L Q (rpay p i x) ∧ On T L Q w w' := by
  have b1 := hk.paid_le i
  have b2 := hk.owed_le i
  have b3 := hk.h0
  have b4 := hk.ow i
  have b5 := hk.pa i
  have c0 := h.ch
  have c1 := h.cl
  have c2 := h.cq
  have co := h.co i hi
  have cp := h.cp i hi
  have f0 := h.f0 0
  have fl := h.fl i
  have fq := h.fq i
  have n1 := h.n1
  have n2 := h.n2
  have n3 := h.n3
  unfold rpay
  obtain ⟨hd, hld, ow, pd⟩ := p
  dsimp only at *
  obtain ⟨y, hy⟩ : ∃ y, ow.getD i 0 = y := ⟨_, rfl⟩
  obtain ⟨z, hz⟩ : ∃ z, pd.getD i 0 = z := ⟨_, rfl⟩
  have hsum : 0 ≤ hld.sum := b1.2
  have b1' := b1.1
  rw [hy] at co b2 b4 ⊢
  rw [hz] at cp b5 b1' ⊢
  have H := hide h
  clear h hk hy hz b1
  go_enter Try.func47, Try.ntmps47
  go_wp2_with fail
  go_region
  go_wp2_with fail
  go_region
  go_end0
  refine ⟨rfl, ?_, ?_⟩
  · exact ((((unhide H).hand (hd - x)).owe i (y - x)).pays i (z + x)).other rfl rfl rfl
  · exact ((((On.refl T L Q w).set (x := ⟨T, 0, none⟩) _ (.inl rfl)).set (x := ⟨L, i, none⟩) _ (.inr (.inl rfl))).set (x := ⟨Q, i, none⟩) _ (.inr (.inr (.inl rfl)))).drewN 2

theorem lea_swap (a b c : Int) : lea (lea a b) c = lea (lea a c) b := by
  unfold lea
  repeat' split
  all_goals omega
theorem pay_rpay (p : Pu) (i : Nat) (most : Int) : payM p i most = rpay p i (paySum p i most) := rfl

set_option maxHeartbeats 4000000 in
theorem upto_any (T L Q : Nat) (p : Pu) (M : Int) (o0 : List Int) (i : Nat) (most : Int) (w : World) (h : RSt w T L Q p) (hk : Keeps M o0 p) (hi : i < 8) (hm : 0 ≤ most) :
    Calls Try.prog 33 #[.pointer (some ⟨T, 0, none⟩), .int .i64 i, .int .i64 most] w fun e w' => e = .returned (.tuple #[]) ∧ RSt w' T L Q (payM p i most) ∧ On T L Q w w' := by
  have hs := Split.paySum_bd hk i most hm
  have b1 := hk.paid_le i
  have b5 := hk.pa i
  have c0 := h.ch
  have c1 := h.cl
  have co := h.co i hi
  have hss : lea (lea p.hand (p.owed.getD i 0)) most = paySum p i most := lea_swap _ _ _
  rw [pay_rpay]
  obtain ⟨s, hse⟩ : ∃ s, paySum p i most = s := ⟨_, rfl⟩
  rw [hse] at hs hss ⊢
  obtain ⟨x, hx⟩ : ∃ x, p.hand = x := ⟨_, rfl⟩
  obtain ⟨y, hy⟩ : ∃ y, p.owed.getD i 0 = y := ⟨_, rfl⟩
  rw [hx] at c0 hss hs b1
  rw [hy] at co hss hs
  have hs9 : s ≤ 1000000000 := by omega
  have H := hide h
  have HK := hide hk
  obtain ⟨l1, hl1⟩ : ∃ l1, lea x y = l1 := ⟨_, rfl⟩
  rw [hl1] at hss
  have HS := hide hss
  have HL1 := hide hl1
  clear h hk hse hx hy hss hl1 b1 b5
  have hi' : (i : Int) < 8 := by omega
  go_enter Try.func33, Try.ntmps33
  go_wp2_with fail
  go_quiet ((go_at_call 46; exact Calls.quiet_of_same (rleast_any _ _ _)))
  rw [unhide HL1]
  go_wp2_with fail
  refine (rleast_any l1 most _).mono ?_
  rintro e w1 ⟨rfl, rfl⟩
  rw [unhide HS]
  go_wp2_with fail
  refine (rpay_any T L Q p M o0 i s _ (by exact (unhide H).drewN _) (unhide HK) hi hs.1 hs9).mono ?_
  rintro e w2 ⟨rfl, h2, g2⟩
  have H2 := hide h2
  have G2 := hide (((On.refl T L Q w).drewN _).trans g2)
  clear h2 g2
  go_wp2_with fail
  go_end0
  exact ⟨rfl, unhide H2, unhide G2⟩

set_option maxHeartbeats 1000000 in
theorem number_any (t : ByteArray) (i n : Nat) (w : World) (hs : t.size ≤ 120) (hi : i + n ≤ t.size) (hn : n ≤ 4) (hd : digM t i n = i + n) :
    Calls Try.prog 48 #[.string t, .int .i64 i, .int .i64 n] w fun e w' => e = .returned (.int .i64 (numM t i n)) ∧ w' = w := by
  have hdig : ∀ k, k < n → 48 ≤ byt t (i + k) ∧ byt t (i + k) ≤ 57 := by
    have key : ∀ (n i : Nat), digM t i n = i + n → ∀ k, k < n → 48 ≤ byt t (i + k) ∧ byt t (i + k) ≤ 57 := by
      intro n
      induction n with
      | zero => intro i h k hk; omega
      | succ n ih =>
        intro i h k hk
        have hx : Split.dig (byt t i) = true := by
          cases hx : Split.dig (byt t i)
          · simp [digM, hx] at h
          · rfl
        simp only [digM, hx, if_true] at h
        cases k with
        | zero => rw [dig_t] at hx; exact hx
        | succ k =>
          have := ih (i + 1) (by omega) k (by omega)
          rw [show i + (k + 1) = i + 1 + k by omega]
          exact this
    exact key n i hd
  have HD := hide hdig
  clear hdig hd
  have hbd : ∀ k, k ≤ n → 0 ≤ numM t i k ∧ numM t i k < 10 ^ k := by
    intro k
    induction k with
    | zero => intro _; simp [numM]
    | succ k ih =>
      intro hk
      have := ih (by omega)
      have hb := unhide HD k (by omega)
      simp only [numM]
      have e : (10 : Int) ^ (k + 1) = 10 * 10 ^ k := by rw [Int.pow_succ, Int.mul_comm]
      rw [e]
      generalize (10 : Int) ^ k = q at *
      omega
  have HBD := hide hbd
  clear hbd
  go_enter Try.func48, Try.ntmps48
  go_wp2_with fail
  go_loop [7, 8] (fun vv kk => ∃ k : Nat, k ≤ n ∧ kk = .int .i64 (i + k : Nat) ∧ vv = .int .i64 (numM t i k)) (fun _ kk => i + n - (intOf kk).toNat)
  case atStart => exact ⟨0, by omega, rfl, rfl⟩
  case round =>
    obtain ⟨k, hk, rfl, rfl⟩ := hrel
    by_cases hlt : k < n
    · have hsz : i + k < t.size := by omega
      have hb := unhide HD k hlt
      rw [byt_lt hsz] at hb
      have hv := unhide HBD k (by omega)
      have h10 : (10 : Int) ^ k ≤ 1000 := by
        have : k ≤ 3 := by omega
        match k, this with
        | 0, _ => decide
        | 1, _ => decide
        | 2, _ => decide
        | 3, _ => decide
      have hnx : numM t i (k + 1) = 10 * numM t i k + ((t[i + k].toNat : Int) - 48) := by
        rw [← byt_lt hsz]; rfl
      obtain ⟨v, hve⟩ : ∃ v, numM t i k = v := ⟨_, rfl⟩
      rw [hve] at hv hnx ⊢
      have hv2 : v ≤ 1000 := by omega
      have hv1 := hv.1
      have HN := hide hnx
      clear hve hnx hv h10
      go_wp2_with fail
      go_round
      case rel => exact ⟨k + 1, by omega, by go_num, by rw [unhide HN]⟩
      case measure => simp [intOf]; omega
    · have : k = n := by omega
      subst this
      go_wp2_with fail
      go_ret
      exact ⟨rfl, rfl⟩

theorem past_any (t : ByteArray) (i : Nat) (w : World) (hs : t.size ≤ 120) (hi : i < t.size) :
    Calls Try.prog 49 #[.string t, .int .i64 i] w fun e w' => e = .returned (.int .i64 ((Split.scanF t (i + 1) 0 (-1)).j + 1 : Nat)) ∧ ∃ n, w' = w.drewN n := by
  have hr := Split.scanF_rng t (i + 1) 0 (-1) hi
  have HS := hide (fun w => scan_any t hs t.size (i + 1) 0 w (by omega) hi (by omega))
  go_enter Try.func49, Try.ntmps49
  go_wp2_with fail
  refine (unhide HS _).mono ?_
  rintro e w1 ⟨rfl, n, rfl⟩
  obtain ⟨r, hre⟩ : ∃ r, Split.scanF t (i + 1) 0 (-1) = r := ⟨_, rfl⟩
  rw [hre] at hr ⊢
  have HR := hide hre
  clear hre
  obtain ⟨rj, rd, rok, rc⟩ := r
  dsimp only at hr
  dsimp only
  go_wp2_with fail
  go_ret
  exact ⟨ret_int (by rw [unhide HR]; dsimp only; omega), n, rfl⟩
end Go.Proofs.Ytbpolcnjojlkjab
