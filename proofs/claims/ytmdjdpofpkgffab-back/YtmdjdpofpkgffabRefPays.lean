/- RefPays: RefPay, RefRate -/
import Derived.Test.YtmdjdpofpkgffabPurseW
import Derived.Test.YtmdjdpofpkgffabRefRead
import Derived.Test.YtmdjdpofpkgffabRatesM
import Derived.Deep.OwnRows
import Derived.Deep.LoopGhost

/- splitref's State in memory; least, pay, upto, number, past. -/
namespace Go.Proofs.Ytmdjdpofpkgffab
open Go.ChangeShapes Go.WideShapes Go.ChangeAt Go.RowKit
open Split (Pu lea paySum payM Keeps byt byt_lt numM dig_t digM)
set_option linter.unusedVariables false
set_option linter.unusedSimpArgs false

/-- The document's state: block T, its two lists in blocks L and Q. -/
structure RSt (w : World) (T L Q : Nat) (p : Pu) : Prop where
  lo : p.owed.length = 8
  lp : p.paid.length = 8
  n1 : T ≠ L
  n2 : T ≠ Q
  n3 : L ≠ Q
  row : w.heap[T]? = some (.cells #[.int .i64 p.hand, .slice (some ⟨L, 0, none⟩) 8 8, .slice (some ⟨Q, 0, none⟩) 8 8] 79 (0, 0))
  rl : w.heap[L]? = some (.cells (p.owed.map (Value.int .i64)).toArray 3 (0, 0))
  rq : w.heap[Q]? = some (.cells (p.paid.map (Value.int .i64)).toArray 3 (0, 0))

/-- Nothing old has turned but these three blocks. -/
structure On (T L Q : Nat) (w w' : World) : Prop where
  os : w'.os = w.os
  tape : w'.tape = w.tape
  output : w'.output = w.output
  size : w.heap.size ≤ w'.heap.size
  block : ∀ k, k < w.heap.size → k ≠ T → k ≠ L → k ≠ Q → w'.heap[k]? = w.heap[k]?

section
variable {T L Q : Nat} {a b c : World}
theorem On.refl (T L Q : Nat) (a : World) : On T L Q a a := ⟨rfl, rfl, rfl, Nat.le_refl _, fun _ _ _ _ _ => rfl⟩
theorem On.trans (h : On T L Q a b) (k : On T L Q b c) : On T L Q a c :=
  ⟨k.os.trans h.os, k.tape.trans h.tape, k.output.trans h.output, Nat.le_trans h.size k.size, fun i hi h1 h2 h3 => (k.block i (Nat.lt_of_lt_of_le hi h.size) h1 h2 h3).trans (h.block i hi h1 h2 h3)⟩
theorem On.drewN (h : On T L Q a b) (n : Nat) : On T L Q a (b.drewN n) := ⟨h.os, h.tape, h.output, h.size, h.block⟩
theorem On.alloc (h : On T L Q a b) (o : Obj) : On T L Q a (b.alloc o) :=
  h.trans ⟨rfl, rfl, rfl, by simp, fun k hk _ _ _ => Below.heap_alloc _ _ _ hk⟩
theorem On.set (h : On T L Q a b) {x : Addr} (v : Value) (hx : x.block = T ∨ x.block = L ∨ x.block = Q ∨ a.heap.size ≤ x.block) : On T L Q a (b.setCell x v) :=
  ⟨h.os, h.tape, h.output, by simpa [World.setCell] using h.size, fun k hk h1 h2 h3 => (Below.heap_setCell _ _ _ _ (by omega)).trans (h.block k hk h1 h2 h3)⟩
theorem On.below {B : Nat} (h : On T L Q a b) (hB : B ≤ a.heap.size) (h1 : B ≤ T) (h2 : B ≤ L) (h3 : B ≤ Q) : Below B a b :=
  ⟨h.os, h.tape, h.output, h.size, fun k hk => h.block k (by omega) (by omega) (by omega) (by omega)⟩
end

section
variable {w : World} {T L Q : Nat} {p : Pu}
theorem RSt.ch (h : RSt w T L Q p) : w.cell? ⟨T, 0, none⟩ = some (.int .i64 p.hand) := by rw [cell_of_row w T 0 _ _ _ h.row]; rfl
theorem RSt.cl (h : RSt w T L Q p) : w.cell? ⟨T, 1, none⟩ = some (.slice (some ⟨L, 0, none⟩) 8 8) := by rw [cell_of_row w T 1 _ _ _ h.row]; rfl
theorem RSt.cq (h : RSt w T L Q p) : w.cell? ⟨T, 2, none⟩ = some (.slice (some ⟨Q, 0, none⟩) 8 8) := by rw [cell_of_row w T 2 _ _ _ h.row]; rfl
theorem RSt.co (h : RSt w T L Q p) (i : Nat) (hi : i < 8) : w.cell? ⟨L, i, none⟩ = some (.int .i64 (p.owed.getD i 0)) := by
  have h1 := h.lo
  rw [cell_of_row w L _ _ _ _ h.rl]
  simp [List.getElem?_eq_getElem (show i < p.owed.length by omega)]
theorem RSt.cp (h : RSt w T L Q p) (i : Nat) (hi : i < 8) : w.cell? ⟨Q, i, none⟩ = some (.int .i64 (p.paid.getD i 0)) := by
  have h1 := h.lp
  rw [cell_of_row w Q _ _ _ _ h.rq]
  simp [List.getElem?_eq_getElem (show i < p.paid.length by omega)]
theorem RSt.f0 (h : RSt w T L Q p) (i : Nat) : w.frozen? ⟨T, i, none⟩ = false := frozen_of_row w T i _ _ h.row
theorem RSt.fl (h : RSt w T L Q p) (i : Nat) : w.frozen? ⟨L, i, none⟩ = false := frozen_of_row w L i _ _ h.rl
theorem RSt.fq (h : RSt w T L Q p) (i : Nat) : w.frozen? ⟨Q, i, none⟩ = false := frozen_of_row w Q i _ _ h.rq
theorem RSt.other {w' : World} (h : RSt w T L Q p) (e1 : w'.heap[T]? = w.heap[T]?) (e2 : w'.heap[L]? = w.heap[L]?) (e3 : w'.heap[Q]? = w.heap[Q]?) : RSt w' T L Q p :=
  ⟨h.lo, h.lp, h.n1, h.n2, h.n3, e1.trans h.row, e2.trans h.rl, e3.trans h.rq⟩
theorem RSt.lt (h : RSt w T L Q p) : T < w.heap.size ∧ L < w.heap.size ∧ Q < w.heap.size := ⟨cell_lt h.row, cell_lt h.rl, cell_lt h.rq⟩
theorem RSt.alloc (h : RSt w T L Q p) (o : Obj) : RSt (w.alloc o) T L Q p :=
  h.other (Below.heap_alloc _ _ _ h.lt.1) (Below.heap_alloc _ _ _ h.lt.2.1) (Below.heap_alloc _ _ _ h.lt.2.2)
theorem RSt.off (h : RSt w T L Q p) {x : Addr} (v : Value) (h1 : x.block ≠ T) (h2 : x.block ≠ L) (h3 : x.block ≠ Q) : RSt (w.setCell x v) T L Q p :=
  h.other (Below.heap_setCell _ _ _ _ (Ne.symm h1)) (Below.heap_setCell _ _ _ _ (Ne.symm h2)) (Below.heap_setCell _ _ _ _ (Ne.symm h3))
theorem RSt.drewN (h : RSt w T L Q p) (n : Nat) : RSt (w.drewN n) T L Q p := h.other rfl rfl rfl
theorem RSt.hand (h : RSt w T L Q p) (x : Int) : RSt (w.setCell ⟨T, 0, none⟩ (.int .i64 x)) T L Q ⟨x, p.held, p.owed, p.paid⟩ := by
  refine ⟨h.lo, h.lp, h.n1, h.n2, h.n3, ?_, ?_, ?_⟩
  · rw [heap_setCell_same w T 0 _ _ _ h.row]; rfl
  · exact (Below.heap_setCell _ _ _ _ (Ne.symm h.n1)).trans h.rl
  · exact (Below.heap_setCell _ _ _ _ (Ne.symm h.n2)).trans h.rq
theorem RSt.owe (h : RSt w T L Q p) (i : Nat) (x : Int) : RSt (w.setCell ⟨L, i, none⟩ (.int .i64 x)) T L Q ⟨p.hand, p.held, p.owed.set i x, p.paid⟩ := by
  refine ⟨by simp [h.lo], h.lp, h.n1, h.n2, h.n3, ?_, ?_, ?_⟩
  · exact (Below.heap_setCell _ _ _ _ h.n1).trans h.row
  · rw [heap_setCell_same w L i _ _ _ h.rl]; simp [List.map_set]
  · exact (Below.heap_setCell _ _ _ _ (Ne.symm h.n3)).trans h.rq
theorem RSt.pays (h : RSt w T L Q p) (i : Nat) (x : Int) : RSt (w.setCell ⟨Q, i, none⟩ (.int .i64 x)) T L Q ⟨p.hand, p.held, p.owed, p.paid.set i x⟩ := by
  refine ⟨h.lo, by simp [h.lp], h.n1, h.n2, h.n3, ?_, ?_, ?_⟩
  · exact (Below.heap_setCell _ _ _ _ h.n2).trans h.row
  · exact (Below.heap_setCell _ _ _ _ h.n3).trans h.rl
  · rw [heap_setCell_same w Q i _ _ _ h.rq]; simp [List.map_set]
end

theorem rleast_any (a b : Int) (w : World) : Calls Try.prog 86 #[.int .i64 a, .int .i64 b] w fun e w' => e = .returned (.int .i64 (lea a b)) ∧ w' = w := by
  by_cases h : a < b
  · have e : lea a b = a := by simp [lea, h]
    rw [e]; clear e
    go_enter Try.func86, Try.ntmps86
    go_wp2
    go_ret
    exact ⟨rfl, rfl⟩
  · have e : lea a b = b := by simp [lea, h]
    rw [e]; clear e
    go_enter Try.func86, Try.ntmps86
    go_wp2
    go_ret
    exact ⟨rfl, rfl⟩

/-- x is paid to bucket i. -/
def rpay (p : Pu) (i : Nat) (x : Int) : Pu := ⟨p.hand - x, p.held, p.owed.set i (p.owed.getD i 0 - x), p.paid.set i (p.paid.getD i 0 + x)⟩

set_option maxHeartbeats 4000000 in
theorem rpay_any (T L Q : Nat) (p : Pu) (M : Int) (o0 : List Int) (i : Nat) (x : Int) (w : World) (h : RSt w T L Q p) (hk : Keeps M o0 p) (hi : i < 8) (hx : 0 ≤ x) (hx' : x ≤ 1000000000) :
    Calls Try.prog 87 #[.pointer (some ⟨T, 0, none⟩), .int .i64 i, .int .i64 x] w fun e w' => e = .returned (.tuple #[]) ∧ RSt w' T L Q (rpay p i x) ∧ On T L Q w w' := by
  have b1 := hk.paid_le i
  have b2 := hk.owed_le i
  have b3 := hk.h0
  have b4 := hk.ow i
  have b5 := hk.pa i
  have c0 := h.ch
  have c1 := h.cl
  have c2 := h.cq
  have co := h.co i hi
  have cp := h.cp i hi
  have f0 := h.f0 0
  have fl := h.fl i
  have fq := h.fq i
  have n1 := h.n1
  have n2 := h.n2
  have n3 := h.n3
  unfold rpay
  obtain ⟨hd, hld, ow, pd⟩ := p
  dsimp only at *
  obtain ⟨y, hy⟩ : ∃ y, ow.getD i 0 = y := ⟨_, rfl⟩
  obtain ⟨z, hz⟩ : ∃ z, pd.getD i 0 = z := ⟨_, rfl⟩
  have hsum : 0 ≤ hld.sum := b1.2
  have b1' := b1.1
  rw [hy] at co b2 b4 ⊢
  rw [hz] at cp b5 b1' ⊢
  have H := hide h
  clear h hk hy hz b1
  go_enter Try.func87, Try.ntmps87
  go_wp2_with fail
  go_region
  go_wp2_with fail
  go_region
  go_end0
  refine ⟨rfl, ?_, ?_⟩
  · exact ((((unhide H).hand (hd - x)).owe i (y - x)).pays i (z + x)).other rfl rfl rfl
  · exact ((((On.refl T L Q w).set (x := ⟨T, 0, none⟩) _ (.inl rfl)).set (x := ⟨L, i, none⟩) _ (.inr (.inl rfl))).set (x := ⟨Q, i, none⟩) _ (.inr (.inr (.inl rfl)))).drewN 2

theorem lea_swap (a b c : Int) : lea (lea a b) c = lea (lea a c) b := by
  unfold lea
  repeat' split
  all_goals omega
theorem pay_rpay (p : Pu) (i : Nat) (most : Int) : payM p i most = rpay p i (paySum p i most) := rfl

set_option maxHeartbeats 4000000 in
theorem upto_any (T L Q : Nat) (p : Pu) (M : Int) (o0 : List Int) (i : Nat) (most : Int) (w : World) (h : RSt w T L Q p) (hk : Keeps M o0 p) (hi : i < 8) (hm : 0 ≤ most) :
    Calls Try.prog 67 #[.pointer (some ⟨T, 0, none⟩), .int .i64 i, .int .i64 most] w fun e w' => e = .returned (.tuple #[]) ∧ RSt w' T L Q (payM p i most) ∧ On T L Q w w' := by
  have hs := Split.paySum_bd hk i most hm
  have b1 := hk.paid_le i
  have b5 := hk.pa i
  have c0 := h.ch
  have c1 := h.cl
  have co := h.co i hi
  have hss : lea (lea p.hand (p.owed.getD i 0)) most = paySum p i most := lea_swap _ _ _
  rw [pay_rpay]
  obtain ⟨s, hse⟩ : ∃ s, paySum p i most = s := ⟨_, rfl⟩
  rw [hse] at hs hss ⊢
  obtain ⟨x, hx⟩ : ∃ x, p.hand = x := ⟨_, rfl⟩
  obtain ⟨y, hy⟩ : ∃ y, p.owed.getD i 0 = y := ⟨_, rfl⟩
  rw [hx] at c0 hss hs b1
  rw [hy] at co hss hs
  have hs9 : s ≤ 1000000000 := by omega
  have H := hide h
  have HK := hide hk
  obtain ⟨l1, hl1⟩ : ∃ l1, lea x y = l1 := ⟨_, rfl⟩
  rw [hl1] at hss
  have HS := hide hss
  have HL1 := hide hl1
  clear h hk hse hx hy hss hl1 b1 b5
  have hi' : (i : Int) < 8 := by omega
  go_enter Try.func67, Try.ntmps67
  go_wp2_with fail
  go_quiet ((go_at_call 86; exact Calls.quiet_of_same (rleast_any _ _ _)))
  rw [unhide HL1]
  go_wp2_with fail
  refine (rleast_any l1 most _).mono ?_
  rintro e w1 ⟨rfl, rfl⟩
  rw [unhide HS]
  go_wp2_with fail
  refine (rpay_any T L Q p M o0 i s _ (by exact (unhide H).drewN _) (unhide HK) hi hs.1 hs9).mono ?_
  rintro e w2 ⟨rfl, h2, g2⟩
  have H2 := hide h2
  have G2 := hide (((On.refl T L Q w).drewN _).trans g2)
  clear h2 g2
  go_wp2_with fail
  go_end0
  exact ⟨rfl, unhide H2, unhide G2⟩

set_option maxHeartbeats 1000000 in
theorem number_any (t : ByteArray) (i n : Nat) (w : World) (hs : t.size ≤ 120) (hi : i + n ≤ t.size) (hn : n ≤ 4) (hd : digM t i n = i + n) :
    Calls Try.prog 88 #[.string t, .int .i64 i, .int .i64 n] w fun e w' => e = .returned (.int .i64 (numM t i n)) ∧ w' = w := by
  have hdig : ∀ k, k < n → 48 ≤ byt t (i + k) ∧ byt t (i + k) ≤ 57 := by
    have key : ∀ (n i : Nat), digM t i n = i + n → ∀ k, k < n → 48 ≤ byt t (i + k) ∧ byt t (i + k) ≤ 57 := by
      intro n
      induction n with
      | zero => intro i h k hk; omega
      | succ n ih =>
        intro i h k hk
        have hx : Split.dig (byt t i) = true := by
          cases hx : Split.dig (byt t i)
          · simp [digM, hx] at h
          · rfl
        simp only [digM, hx, if_true] at h
        cases k with
        | zero => rw [dig_t] at hx; exact hx
        | succ k =>
          have := ih (i + 1) (by omega) k (by omega)
          rw [show i + (k + 1) = i + 1 + k by omega]
          exact this
    exact key n i hd
  have HD := hide hdig
  clear hdig hd
  have hbd : ∀ k, k ≤ n → 0 ≤ numM t i k ∧ numM t i k < 10 ^ k := by
    intro k
    induction k with
    | zero => intro _; simp [numM]
    | succ k ih =>
      intro hk
      have := ih (by omega)
      have hb := unhide HD k (by omega)
      simp only [numM]
      have e : (10 : Int) ^ (k + 1) = 10 * 10 ^ k := by rw [Int.pow_succ, Int.mul_comm]
      rw [e]
      generalize (10 : Int) ^ k = q at *
      omega
  have HBD := hide hbd
  clear hbd
  go_enter Try.func88, Try.ntmps88
  go_wp2_with fail
  go_loop [7, 8] (fun vv kk => ∃ k : Nat, k ≤ n ∧ kk = .int .i64 (i + k : Nat) ∧ vv = .int .i64 (numM t i k)) (fun _ kk => i + n - (intOf kk).toNat)
  case atStart => exact ⟨0, by omega, rfl, rfl⟩
  case round =>
    obtain ⟨k, hk, rfl, rfl⟩ := hrel
    by_cases hlt : k < n
    · have hsz : i + k < t.size := by omega
      have hb := unhide HD k hlt
      rw [byt_lt hsz] at hb
      have hv := unhide HBD k (by omega)
      have h10 : (10 : Int) ^ k ≤ 1000 := by
        have : k ≤ 3 := by omega
        match k, this with
        | 0, _ => decide
        | 1, _ => decide
        | 2, _ => decide
        | 3, _ => decide
      have hnx : numM t i (k + 1) = 10 * numM t i k + ((t[i + k].toNat : Int) - 48) := by
        rw [← byt_lt hsz]; rfl
      obtain ⟨v, hve⟩ : ∃ v, numM t i k = v := ⟨_, rfl⟩
      rw [hve] at hv hnx ⊢
      have hv2 : v ≤ 1000 := by omega
      have hv1 := hv.1
      have HN := hide hnx
      clear hve hnx hv h10
      go_wp2_with fail
      go_round
      case rel => exact ⟨k + 1, by omega, by go_num, by rw [unhide HN]⟩
      case measure => simp [intOf]; omega
    · have : k = n := by omega
      subst this
      go_wp2_with fail
      go_ret
      exact ⟨rfl, rfl⟩

theorem past_any (t : ByteArray) (i : Nat) (w : World) (hs : t.size ≤ 120) (hi : i < t.size) :
    Calls Try.prog 89 #[.string t, .int .i64 i] w fun e w' => e = .returned (.int .i64 ((Split.scanF t (i + 1) 0 (-1)).j + 1 : Nat)) ∧ ∃ n, w' = w.drewN n := by
  have hr := Split.scanF_rng t (i + 1) 0 (-1) hi
  have HS := hide (fun w => scan_any t hs t.size (i + 1) 0 w (by omega) hi (by omega))
  go_enter Try.func89, Try.ntmps89
  go_wp2_with fail
  refine (unhide HS _).mono ?_
  rintro e w1 ⟨rfl, n, rfl⟩
  obtain ⟨r, hre⟩ : ∃ r, Split.scanF t (i + 1) 0 (-1) = r := ⟨_, rfl⟩
  rw [hre] at hr ⊢
  have HR := hide hre
  clear hre
  obtain ⟨rj, rd, rok, rc⟩ := r
  dsimp only at hr
  dsimp only
  go_wp2_with fail
  go_ret
  exact ⟨ret_int (by rw [unhide HR]; dsimp only; omega), n, rfl⟩
end Go.Proofs.Ytmdjdpofpkgffab

/- splitref's rate. -/
namespace Go.Proofs.Ytmdjdpofpkgffab
open Go.ChangeShapes Go.WideShapes Go.ChangeAt Go.RowKit
open Split (Pu lea paySum payM Keeps amTo Pf propTo argTo leftM propM)
set_option linter.unusedVariables false
set_option linter.unusedSimpArgs false

def made8 : Array Value := madeCells #[.int .i64 0] 8
theorem mk8 (W : World) : (Instr.makeSlice 22 (.int .i64 8) (.int .i64 8)).run Try.prog W = .ok (.slice (some ⟨W.heap.size, 0, none⟩) 8 8) (W.alloc (.cells made8 3)) :=
  run_make_row' (P := Try.prog) 22 3 (.int .i64 0) 8 Try.underlying22 infoInt rfl .i64 .i64 8 (by omega) (by omega) W
theorem made8_eq : made8 = ((List.replicate 8 (0 : Int)).map (Value.int .i64)).toArray := by
  apply Array.toList_inj.1
  unfold made8
  rw [toList_madeCells_one]
  simp

/-- Eight bools, a list's row. -/
def Bs (w : World) (S : Nat) (m : List Bool) : Prop := m.length = 8 ∧ w.heap[S]? = some (.cells (m.map Value.bool).toArray 4 (0, 0))
theorem Bs.cell {w : World} {S : Nat} {m : List Bool} (h : Bs w S m) (i : Nat) (hi : i < 8) : w.cell? ⟨S, i, none⟩ = some (.bool (m.getD i false)) := by
  rw [cell_of_row w S _ _ _ _ h.2]
  have h1 := h.1
  simp [List.getElem?_eq_getElem (show i < m.length by omega)]
theorem Bs.other {w w' : World} {S : Nat} {m : List Bool} (h : Bs w S m) (e : w'.heap[S]? = w.heap[S]?) : Bs w' S m := ⟨h.1, e.trans h.2⟩
/-- Eight numbers, a list's row. -/
def Fi (w : World) (G : Nat) (f : List Int) : Prop := f.length = 8 ∧ w.heap[G]? = some (.cells (f.map (Value.int .i64)).toArray 3 (0, 0))
theorem Fi.cell {w : World} {G : Nat} {f : List Int} (h : Fi w G f) (i : Nat) (hi : i < 8) : w.cell? ⟨G, i, none⟩ = some (.int .i64 (f.getD i 0)) := by
  rw [cell_of_row w G _ _ _ _ h.2]
  have h1 := h.1
  simp [List.getElem?_eq_getElem (show i < f.length by omega)]
theorem Fi.fr {w : World} {G : Nat} {f : List Int} (h : Fi w G f) (i : Nat) : w.frozen? ⟨G, i, none⟩ = false := frozen_of_row w G i _ _ h.2
theorem Fi.set {w : World} {G : Nat} {f : List Int} (h : Fi w G f) (i : Nat) (b : Int) : Fi (w.setCell ⟨G, i, none⟩ (.int .i64 b)) G (f.set i b) := by
  refine ⟨by simp [h.1], ?_⟩
  rw [heap_setCell_same w G i _ _ _ h.2]
  simp [List.map_set]
theorem Fi.other {w w' : World} {G : Nat} {f : List Int} (h : Fi w G f) (e : w'.heap[G]? = w.heap[G]?) : Fi w' G f := ⟨h.1, e.trans h.2⟩

set_option maxHeartbeats 8000000 in
theorem rate_any (T L Q S : Nat) (p : Pu) (am : List Bool) (M : Int) (o0 : List Int) (w : World) (h : RSt w T L Q p) (hk : Keeps M o0 p) (hB : Bs w S am) (s1 : S ≠ T) (s2 : S ≠ L) (s3 : S ≠ Q) :
    Calls Try.prog 68 #[.pointer (some ⟨T, 0, none⟩), .slice (some ⟨S, 0, none⟩) 8 8] w fun e w' => e = .returned (.tuple #[]) ∧ RSt w' T L Q (propM p am) ∧ On T L Q w w' := by
  have hh0 := hk.h0
  have hpb := hk.paid_le 0
  have hp0 := hk.pa 0
  have hm9 : p.hand ≤ 1000000000 := by omega
  have hSw : S < w.heap.size := cell_lt hB.2
  have hTw := h.lt
  have HK := hide hk
  have H := hide h
  have HB := hide hB
  have hpm : propM p am = if p.hand < amTo p am 8 then leftM 8 (propTo p am p.hand (amTo p am 8) 8).p (propTo p am p.hand (amTo p am 8) 8).f else (propTo p am p.hand (amTo p am 8) 8).p := rfl
  have HPM := hide hpm
  clear hpm hk h hB hpb hp0
  go_enter Try.func68, Try.ntmps68
  go_wp2_with fail
  go_loop [4, 5] (fun tt ii => ∃ k : Nat, k ≤ 8 ∧ ii = .int .i64 k ∧ tt = .int .i64 (amTo p am k)) (fun _ ii => 8 - (intOf ii).toNat)
  case atStart => exact ⟨0, by omega, rfl, rfl⟩
  case round =>
    obtain ⟨k, hk8, rfl, rfl⟩ := hrel
    by_cases hlt : k < 8
    · have cb := (unhide HB).cell k hlt
      have c1 := (unhide H).cl
      have co := (unhide H).co k hlt
      have hb := Split.amTo_bd (unhide HK) am k
      have h1 := (unhide HK).ow k
      have h2 := (unhide HK).owed_le k
      have hn : amTo p am (k + 1) = amTo p am k + (if am.getD k false then p.owed.getD k 0 else 0) := rfl
      have HN := hide hn
      clear hn
      generalize amTo p am k = tk at *
      obtain ⟨o, ho⟩ : ∃ o, p.owed.getD k 0 = o := ⟨_, rfl⟩
      rw [ho] at co h1 h2
      have HO := hide ho
      clear ho
      cases hm : am.getD k false
      · rw [hm] at cb
        have HM := hide hm
        clear hm
        go_wp2_with fail
        go_round
        case rel => exact ⟨k + 1, by omega, by go_num, by rw [unhide HN, unhide HM]; simp⟩
        case measure => simp [intOf]; omega
      · rw [hm] at cb
        have HM := hide hm
        clear hm
        go_wp2_with fail
        go_round
        case rel => exact ⟨k + 1, by omega, by go_num, by rw [unhide HN, unhide HM, unhide HO]; simp⟩
        case measure => simp [intOf]; omega
    · have : k = 8 := by omega
      subst this
      have c0 := (unhide H).ch
      have hmb := Split.amTo_bd (unhide HK) am 8
      have hkeep := hide (Split.prop_keeps (unhide HK) am p.hand (amTo p am 8) hh0)
      obtain ⟨m, hme⟩ : ∃ m, p.hand = m := ⟨_, rfl⟩
      obtain ⟨t, hte⟩ : ∃ t, amTo p am 8 = t := ⟨_, rfl⟩
      rw [hme] at c0 hh0 hm9 hkeep
      rw [hte] at hmb hkeep ⊢
      have HMT := hide (And.intro hme hte)
      clear hme hte
      by_cases htm : t ≤ m
      · go_wp2_with fail
        go_loopw [7] (fun ii wr => ∃ k : Nat, k ≤ 8 ∧ ii = .int .i64 k ∧ Hid (RSt wr T L Q (propTo p am m t k).p) ∧ Hid (On T L Q w wr)) (fun ii _ => 8 - (intOf ii).toNat)
        case atStart => exact ⟨0, by omega, rfl, unhide H, On.refl _ _ _ _⟩
        case round =>
          obtain ⟨k, hk8, rfl, hq, hg⟩ := hrel
          by_cases hlt : k < 8
          · have cb : wr.cell? ⟨S, k, none⟩ = some (.bool (am.getD k false)) := by
              rw [World.cell?_of_block (w := w) ((unhide hg).block S hSw s1 s2 s3)]
              exact (unhide HB).cell k hlt
            have hkk := unhide hkeep k (by omega)
            have hn : propTo p am m t (k + 1) = (if am.getD k false then
              if t ≤ m then ⟨payM (propTo p am m t k).p k 1000000000, (propTo p am m t k).f⟩
              else ⟨payM (propTo p am m t k).p k (m * (propTo p am m t k).p.owed.getD k 0 / t), (propTo p am m t k).f.set k (m * (propTo p am m t k).p.owed.getD k 0 % t)⟩
            else propTo p am m t k) := rfl
            obtain ⟨s, hse⟩ : ∃ s, propTo p am m t k = s := ⟨_, rfl⟩
            rw [hse] at hq hkk hn
            have HKK := hide hkk
            rw [if_pos htm] at hn
            have HN := hide hn
            clear hse hn hkk
            cases ham : am.getD k false
            · rw [ham] at cb
              have hnx : Hid (propTo p am m t (k + 1) = s) := by
                show propTo p am m t (k + 1) = s
                rw [unhide HN, ham]; simp
              clear ham HN
              go_wp2_with fail
              go_roundw
              case rel => exact ⟨k + 1, by omega, by go_num, by rw [unhide hnx]; exact hq, hg⟩
              case measure => simp [intOf]; omega
            · rw [ham] at cb
              have hnx : Hid (propTo p am m t (k + 1) = ⟨payM s.p k 1000000000, s.f⟩) := by
                show propTo p am m t (k + 1) = _
                rw [unhide HN, ham]; simp
              clear ham HN
              go_wp2_with fail
              refine (upto_any T L Q s.p M o0 k 1000000000 _ (unhide hq) (unhide HKK).1 hlt (by omega)).mono ?_
              rintro e w2 ⟨rfl, h2, g2⟩
              have H2 := hide h2
              have G2 := hide ((unhide hg).trans g2)
              clear h2 g2
              go_wp2_with fail
              go_roundw
              case rel => exact ⟨k + 1, by omega, by go_num, by rw [unhide hnx]; exact H2, G2⟩
              case measure => simp [intOf]; omega
          · have : k = 8 := by omega
            subst this
            go_wp2_with fail
            refine bodyPost_ret (v := .tuple #[]) (by simp [results, Try.results68, go_sem]) rfl ?_
            rw [unhide HPM, (unhide HMT).1, (unhide HMT).2, if_neg (by omega)]
            exact ⟨rfl, unhide hq, unhide hg⟩
      · have hmt : m < t := by omega
        have hmid := hide (fun i hi => Split.prop_exact (unhide HK) am hh0 hmt (unhide HMT).1 (unhide HMT).2 i hi)
        have hls := hide (Split.left_start (unhide HK) am hh0 hmt (unhide HMT).1 (unhide HMT).2)
        have hmk := mk8
        have HPM' : Hid (propM p am = leftM 8 (propTo p am m t 8).p (propTo p am m t 8).f) := by
          show propM p am = _
          rw [unhide HPM, (unhide HMT).1, (unhide HMT).2, if_pos hmt]
        clear HPM
        go_wp2_with fail
        clear hmk
        have hF0 : Hid (Fi (w.alloc (.cells made8 3)) w.heap.size (List.replicate 8 0)) := ⟨by simp, by rw [← made8_eq]; exact heap_alloc_new _ _⟩
        go_loopw [9] (fun ii wr => ∃ k : Nat, k ≤ 8 ∧ ii = .int .i64 k ∧ Hid (RSt wr T L Q (propTo p am m t k).p) ∧ Hid (Fi wr w.heap.size (propTo p am m t k).f) ∧ Hid (On T L Q w wr)) (fun ii _ => 8 - (intOf ii).toNat)
        case atStart => exact ⟨0, by omega, rfl, (unhide H).alloc _, hF0, (On.refl _ _ _ _).alloc _⟩
        case round =>
          obtain ⟨k, hk8, rfl, hq, hf, hg⟩ := hrel
          clear hF0
          have hFw : w.heap.size < wr.heap.size := cell_lt (unhide hf).2
          by_cases hlt : k < 8
          · have cb : wr.cell? ⟨S, k, none⟩ = some (.bool (am.getD k false)) := by
              rw [World.cell?_of_block (w := w) ((unhide hg).block S hSw s1 s2 s3)]
              exact (unhide HB).cell k hlt
            have hkk := unhide hkeep k (by omega)
            have hexa := unhide hmid k hlt
            have hn : propTo p am m t (k + 1) = (if am.getD k false then
              if t ≤ m then ⟨payM (propTo p am m t k).p k 1000000000, (propTo p am m t k).f⟩
              else ⟨payM (propTo p am m t k).p k (m * (propTo p am m t k).p.owed.getD k 0 / t), (propTo p am m t k).f.set k (m * (propTo p am m t k).p.owed.getD k 0 % t)⟩
            else propTo p am m t k) := rfl
            obtain ⟨s, hse⟩ : ∃ s, propTo p am m t k = s := ⟨_, rfl⟩
            rw [hse] at hq hf hkk hn hexa
            have HKK := hide hkk
            rw [if_neg (show ¬ t ≤ m by omega)] at hn
            have HN := hide hn
            have HEX := hide hexa
            clear hse hn hkk hexa
            cases ham : am.getD k false
            · rw [ham] at cb
              have hnx : Hid (propTo p am m t (k + 1) = s) := by
                show propTo p am m t (k + 1) = s
                rw [unhide HN, ham]; simp
              clear ham HN HEX
              go_wp2_with fail
              go_roundw
              case rel => exact ⟨k + 1, by omega, by go_num, by rw [unhide hnx]; exact hq, by rw [unhide hnx]; exact hf, hg⟩
              case measure => simp [intOf]; omega
            · rw [ham] at cb
              have hnx : Hid (propTo p am m t (k + 1) = ⟨payM s.p k (m * s.p.owed.getD k 0 / t), s.f.set k (m * s.p.owed.getD k 0 % t)⟩) := by
                show propTo p am m t (k + 1) = _
                rw [unhide HN, ham]; simp
              have hexx : Hid (paySum s.p k (m * s.p.owed.getD k 0 / t) = m * s.p.owed.getD k 0 / t) := unhide HEX ham
              clear ham HN HEX
              have c1 := (unhide hq).cl
              have co := (unhide hq).co k hlt
              have cf := (unhide hf).cell k hlt
              have ff := (unhide hf).fr k
              have ho1 := (unhide HKK).1.ow k
              have ho2 := (unhide HKK).1.owed_le k
              obtain ⟨o, hoe⟩ : ∃ o, s.p.owed.getD k 0 = o := ⟨_, rfl⟩
              rw [hoe] at co ho1 ho2 hnx hexx
              have hp1 : 0 ≤ m * o := Int.mul_nonneg hh0 ho1
              have hp2 : m * o ≤ m * 1000000000 := Int.mul_le_mul_of_nonneg_left ho2 hh0
              obtain ⟨pr, hpr⟩ : ∃ pr, m * o = pr := ⟨_, rfl⟩
              have hdv : 0 ≤ m * o / t ∧ m * o / t ≤ 1000000000 := by
                refine ⟨Int.ediv_nonneg hp1 (by omega), ?_⟩
                have : m * o ≤ 1000000000 * t := by
                  have q1 : m * o ≤ t * o := Int.mul_le_mul_of_nonneg_right (by omega) ho1
                  have q2 : t * o ≤ t * 1000000000 := Int.mul_le_mul_of_nonneg_left ho2 (by omega)
                  rw [Int.mul_comm 1000000000 t]
                  omega
                exact Int.ediv_le_of_le_mul (by omega) this
              have hw1 : wrap64 (m * o) = pr := by rw [← hpr]; exact IntWalk.wrap64_in _ (by omega)
              rw [hpr] at hp1 hp2 hdv hnx hexx
              have hw2 : wrap64 (pr.tdiv t) = pr / t := by rw [Int.tdiv_eq_ediv_of_nonneg hp1]; exact IntWalk.wrap64_in _ (by omega)
              have hw3 : pr.tmod t = pr % t := Int.tmod_eq_emod_of_nonneg hp1
              have HW := hide (And.intro hw1 (And.intro hw2 hw3))
              have ht0 : (t == 0) = false := beq_eq_false_iff_ne.2 (by omega)
              have HOE := hide hoe
              clear hw1 hw2 hw3 hpr hoe
              have hLG : L ≠ w.heap.size := by omega
              have hTG : T ≠ w.heap.size := by omega
              go_wp2_with fail
              rw [(unhide HW).1, (unhide HW).2.1, (unhide HW).2.2]
              obtain ⟨dq, hdq⟩ : ∃ dq, pr / t = dq := ⟨_, rfl⟩
              obtain ⟨dr, hdr⟩ : ∃ dr, pr % t = dr := ⟨_, rfl⟩
              rw [hdq] at hdv hnx hexx ⊢
              rw [hdr] at hnx ⊢
              clear hdq hdr
              refine (rpay_any T L Q s.p M o0 k dq _ ((unhide hq).off (x := ⟨w.heap.size, k, none⟩) _ (by simp; omega) (by simp; omega) (by simp; omega)) (unhide HKK).1 hlt (by omega) (by omega)).mono ?_
              rintro e w2 ⟨rfl, h2, g2⟩
              rw [show rpay s.p k dq = payM s.p k dq by rw [pay_rpay, unhide hexx]] at h2
              have H2 := hide h2
              have F2 := hide (((unhide hf).set k dr).other (g2.block w.heap.size (by simpa [World.setCell] using hFw) (by omega) (by omega) (by omega)))
              have G2 := hide (((unhide hg).set (x := ⟨w.heap.size, k, none⟩) (.int .i64 dr) (.inr (.inr (.inr (Nat.le_refl _))))).trans g2)
              clear h2 g2
              go_wp2_with fail
              go_roundw
              case rel => exact ⟨k + 1, by omega, by go_num, by rw [unhide hnx]; exact H2, by rw [unhide hnx]; exact F2, G2⟩
              case measure => simp [intOf]; omega
          · have : k = 8 := by omega
            subst this
            rw [show ((8 : Nat) : Int) = 8 from rfl]
            have hk8' := hide (unhide hkeep 8 (by omega)).1
            obtain ⟨s, hse⟩ : ∃ s, propTo p am m t 8 = s := ⟨_, rfl⟩
            rw [hse] at hq hf hk8' hls HPM'
            clear hse hmid hkeep HMT
            obtain ⟨wa, hwa⟩ : ∃ wa, wa = wr := ⟨_, rfl⟩
            subst hwa
            go_wp2_with fail
            have hs0 := (unhide hk8').h0
            go_loopg [10, 11] s.p.hand.toNat (fun g _ _ wx => ∃ (k : Nat) (q : Pu) (f : List Int), q.hand = g ∧ q.hand ≤ k ∧ Hid (RSt wx T L Q q) ∧ Hid (Keeps M o0 q) ∧ Hid (Fi wx w.heap.size f) ∧ Hid (Split.Left t q f) ∧ Hid (propM p am = leftM k q f) ∧ Hid (On T L Q w wx))
            case atStart => exact ⟨8, s.p, s.f, by omega, by have := (unhide hls).2; omega, hq, hk8', hf, (unhide hls).1, HPM', hg⟩
            case round =>
              obtain ⟨k, q, f, hqg, hqk, hq, hkq, hf, hlf, hpm, hg⟩ := hrel
              obtain ⟨W, hWe⟩ : ∃ W, W = wr := ⟨_, rfl⟩
              subst hWe
              have hFw : w.heap.size < W.heap.size := cell_lt (unhide hf).2
              have ch := (unhide hq).ch
              have hq0 := (unhide hkq).h0
              obtain ⟨hh, hhe⟩ : ∃ hh, q.hand = hh := ⟨_, rfl⟩
              rw [hhe] at ch hqg hqk hq0
              have HHE := hide hhe
              have HQG := hide hqg
              clear hhe hqg
              by_cases hpos : 0 < hh
              · obtain ⟨k', rfl⟩ : ∃ k', k = k' + 1 := ⟨k - 1, by omega⟩
                have hnx := Split.left_next (unhide hlf) (unhide hkq) (by rw [unhide HHE]; exact hpos)
                have hpm' : Hid (propM p am = leftM k' (payM q (argTo f 7) 1) (f.set (argTo f 7) 0)) := by
                  have := unhide hpm
                  simp only [leftM, unhide HHE, if_pos hpos] at this
                  exact this
                have hal7 := Split.argTo_le f 7
                have HNX := hide hnx
                clear hpm hnx
                go_wp2_with fail
                go_loopw [10, 11] (fun gg ii wx => ∃ i : Nat, 1 ≤ i ∧ i ≤ 8 ∧ ii = .int .i64 i ∧ gg = .int .i64 (argTo f (i - 1) : Nat) ∧ Hid (∃ n, wx = W.drewN n)) (fun _ ii _ => 8 - (intOf ii).toNat)
                case atStart => exact ⟨1, by omega, by omega, rfl, rfl, ⟨0, rfl⟩⟩
                case round =>
                  obtain ⟨i, hi1, hi8, rfl, rfl, hwx⟩ := hrel
                  by_cases hil : i < 8
                  · have hal := Split.argTo_le f (i - 1)
                    have hnx : argTo f i = if f.getD (argTo f (i - 1)) 0 < f.getD i 0 then i else argTo f (i - 1) := by
                      obtain ⟨i', rfl⟩ : ∃ i', i = i' + 1 := ⟨i - 1, by omega⟩
                      rfl
                    obtain ⟨g, hge⟩ : ∃ g, argTo f (i - 1) = g := ⟨_, rfl⟩
                    rw [hge] at hal hnx ⊢
                    have cg : wr.cell? ⟨w.heap.size, g, none⟩ = some (.int .i64 (f.getD g 0)) := by
                      obtain ⟨n, hn⟩ := unhide hwx
                      rw [hn]
                      exact (unhide hf).cell g (by omega)
                    have ci : wr.cell? ⟨w.heap.size, i, none⟩ = some (.int .i64 (f.getD i 0)) := by
                      obtain ⟨n, hn⟩ := unhide hwx
                      rw [hn]
                      exact (unhide hf).cell i (by omega)
                    obtain ⟨x, hx⟩ : ∃ x, f.getD g 0 = x := ⟨_, rfl⟩
                    obtain ⟨y, hy⟩ : ∃ y, f.getD i 0 = y := ⟨_, rfl⟩
                    rw [hx] at cg hnx
                    rw [hy] at ci hnx
                    have HN2 := hide hnx
                    clear hnx hx hy hge
                    have e1 : i + 1 - 1 = i := by omega
                    have E1 := hide e1
                    clear e1
                    by_cases hxy : x < y
                    · go_wp2_with fail
                      go_quiet (fail)
                      go_wp2_with fail
                      go_roundw
                      case rel => exact ⟨i + 1, by omega, by omega, by go_num, by rw [unhide E1, unhide HN2, if_pos hxy], drewN_more (unhide hwx)⟩
                      case measure => simp [intOf]; omega
                    · go_wp2_with fail
                      go_quiet (fail)
                      go_wp2_with fail
                      go_roundw
                      case rel => exact ⟨i + 1, by omega, by omega, by go_num, by rw [unhide E1, unhide HN2, if_neg (by omega)], drewN_more (unhide hwx)⟩
                      case measure => simp [intOf]; omega
                  · have hi' : i = 8 := by omega
                    subst hi'
                    have e7 : (8 - 1 : Nat) = 7 := rfl
                    rw [e7]
                    obtain ⟨g, hge⟩ : ∃ g, argTo f 7 = g := ⟨_, rfl⟩
                    rw [hge] at hal7 hpm' HNX ⊢
                    clear hge e7
                    have hqx : Hid (RSt wr T L Q q) := by
                      obtain ⟨n, hn⟩ := unhide hwx
                      rw [hn]
                      exact (unhide hq).drewN n
                    have hfx : Hid (Fi wr w.heap.size f) := by
                      obtain ⟨n, hn⟩ := unhide hwx
                      rw [hn]
                      exact (unhide hf).other rfl
                    have hgx : Hid (On T L Q w wr) := by
                      obtain ⟨n, hn⟩ := unhide hwx
                      rw [hn]
                      exact (unhide hg).drewN n
                    have hFw2 : w.heap.size < wr.heap.size := cell_lt (unhide hfx).2
                    have cF := (unhide hfx).cell g (by omega)
                    have fF := (unhide hfx).fr g
                    clear ch
                    go_wp2_with fail
                    refine (rpay_any T L Q q M o0 g 1 _ ((unhide hqx).off (x := ⟨w.heap.size, g, none⟩) _ (by simp; omega) (by simp; omega) (by simp; omega)) (unhide hkq) (by omega) (by omega) (by omega)).mono ?_
                    rintro e w2 ⟨rfl, h2, g2⟩
                    have hp1 : rpay q g 1 = payM q g 1 := by rw [pay_rpay, (unhide HNX).1]
                    rw [hp1] at h2
                    have H2 := hide h2
                    have F2 := hide (((unhide hfx).set g 0).other (g2.block w.heap.size (by simpa [World.setCell] using hFw2) (by omega) (by omega) (by omega)))
                    have G2 := hide (((unhide hgx).set (x := ⟨w.heap.size, g, none⟩) (.int .i64 0) (.inr (.inr (.inr (Nat.le_refl _))))).trans g2)
                    have HH1 : Hid ((payM q g 1).hand = hh - 1) := by
                      show (payM q g 1).hand = hh - 1
                      simp [payM, (unhide HNX).1, unhide HHE]
                    clear h2 g2 hp1
                    go_wp2_with fail
                    go_roundg (hh - 1).toNat
                    case measure => have := unhide HQG; omega
                    case rel => exact ⟨k', payM q g 1, f.set g 0, by rw [unhide HH1]; omega, by rw [unhide HH1]; omega, H2, Split.good_pay (unhide hkq) g (by omega) 1 (by omega), F2, (unhide HNX).2, hpm', G2⟩
              · have hfin : Hid (propM p am = q) := by
                  have := unhide hpm
                  cases k with
                  | zero => exact this
                  | succ k =>
                    simp only [leftM, unhide HHE, if_neg hpos] at this
                    exact this
                go_wp2_with fail
                go_end0
                rw [unhide hfin]
                exact ⟨rfl, unhide hq, unhide hg⟩
end Go.Proofs.Ytmdjdpofpkgffab
