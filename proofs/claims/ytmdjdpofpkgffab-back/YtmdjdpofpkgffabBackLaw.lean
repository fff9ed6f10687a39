/- BackLaw: what Back uses: act, probe, sound, alike, whole. -/
import Derived.Test.YtmdjdpofpkgffabShown
namespace Go.Proofs.Ytmdjdpofpkgffab
open Go.ChangeShapes Go.WideShapes Go.ChangeAt Go.RowKit
open Split
set_option linter.unusedVariables false
set_option linter.unusedSimpArgs false

def psum (L : List Int) : Nat → Int
  | 0 => 0
  | k + 1 => psum L k + L.getD k 0
theorem psum_cons (x : Int) (L : List Int) : ∀ k, psum (x :: L) (k + 1) = x + psum L k
  | 0 => by simp [psum]
  | k + 1 => by
    have := psum_cons x L k
    show psum (x :: L) (k + 1) + (x :: L).getD (k + 1) 0 = x + (psum L k + L.getD k 0)
    rw [this, List.getD_cons_succ]
    omega
theorem psum_all : ∀ (L : List Int), psum L L.length = L.sum
  | [] => rfl
  | x :: L => by
    rw [List.length_cons, psum_cons, psum_all L, List.sum_cons]
theorem psum_mono {L : List Int} (h : ∀ i, 0 ≤ L.getD i 0) (k : Nat) : ∀ d, psum L k ≤ psum L (k + d)
  | 0 => Int.le_refl _
  | d + 1 => by
    have := psum_mono h k d
    have := h (k + d)
    show _ ≤ psum L (k + d) + L.getD (k + d) 0
    omega
theorem psum_nonneg {L : List Int} (h : ∀ i, 0 ≤ L.getD i 0) (k : Nat) : 0 ≤ psum L k := by
  have := psum_mono h 0 k
  simpa [psum] using this

set_option maxHeartbeats 4000000 in
theorem whole_true (a' : Option Addr) (c : Nat) (L : List Int) (R : Int) (a : Option Addr) (cap : Nat) (zs : List Int) (m : Int) (w : World) (hL : Ints w a' 8 L) (hZ : Ints w a 8 zs)
    (h0 : ∀ i, 0 ≤ L.getD i 0) (h1 : ∀ i, L.getD i 0 ≤ zs.getD i 0) (hR : 0 ≤ R) (hs : R + L.sum = m) (hm : m ≤ 1000000000) :
    Calls Try.prog 30 #[.agg #[.slice a' 8 c, .int .i64 R, .bool true], .slice a 8 cap, .int .i64 m] w fun e w' => e = .returned (.bool true) ∧ Below w.heap.size w w' := by
  have hp8 : psum L 8 = L.sum := by rw [← psum_all, hL.1]
  obtain ⟨b1, o1, rfl, hc1⟩ := hL.2 (by omega)
  obtain ⟨b2, o2, rfl, hc2⟩ := hZ.2 (by omega)
  have hb1 : b1 < w.heap.size := by
    have := hc1 0 (by omega)
    by_cases hx : b1 < w.heap.size
    · exact hx
    · simp [World.cell?, hx] at this
  have hb2 : b2 < w.heap.size := by
    have := hc2 0 (by omega)
    by_cases hx : b2 < w.heap.size
    · exact hx
    · simp [World.cell?, hx] at this
  have HC1 := hide hc1
  have HC2 := hide hc2
  have H0 := hide h0
  have H1 := hide h1
  have HS := hide hs
  have HP8 := hide hp8
  clear hL hZ hc1 hc2 h0 h1 hs hp8
  obtain ⟨W, hW⟩ : ∃ W, w.alloc (.cells #[.slice (some ⟨b1, o1, none⟩) 8 c, .int .i64 R, .bool true] 53) = W := ⟨_, rfl⟩
  have HBW : Hid (Below w.heap.size w W) := by
    show Below w.heap.size w W
    rw [← hW]; exact (Below.refl _ _).alloc (Nat.le_refl _) _
  have hrow : W.heap[w.heap.size]? = some (.cells #[.slice (some ⟨b1, o1, none⟩) 8 c, .int .i64 R, .bool true] 53 (0, 0)) := by rw [← hW]; exact heap_alloc_new _ _
  have HROW := hide hrow
  clear hrow
  have HW := hide hW
  clear hW
  go_enter Try.func30, Try.ntmps30
  go_wp2_with fail
  rw [unhide HW]
  go_loopw [7, 8] (fun ss ii wr => ∃ k : Nat, k ≤ 8 ∧ ii = .int .i64 k ∧ ss = .int .i64 (R + psum L k) ∧ Hid (∃ n, wr = W.drewN n)) (fun _ ii _ => 8 - (intOf ii).toNat)
  case atStart => exact ⟨0, by omega, rfl, by simp [psum], ⟨0, rfl⟩⟩
  case round =>
    obtain ⟨k, hk, rfl, rfl, hw⟩ := hrel
    have hrow : wr.heap[w.heap.size]? = some (.cells #[.slice (some ⟨b1, o1, none⟩) 8 c, .int .i64 R, .bool true] 53 (0, 0)) := by
      obtain ⟨n, hn⟩ := unhide hw
      rw [hn]; exact unhide HROW
    have p0 := cell_of_row wr w.heap.size 0 _ _ _ hrow
    have p1 := cell_of_row wr w.heap.size 1 _ _ _ hrow
    have p2 := cell_of_row wr w.heap.size 2 _ _ _ hrow
    simp at p0 p1 p2
    clear hrow
    have hpb := psum_nonneg (unhide H0) k
    have hpm := psum_mono (unhide H0) k (8 - k)
    rw [show k + (8 - k) = 8 by omega, unhide HP8] at hpm
    have hsm := unhide HS
    obtain ⟨q, hq⟩ : ∃ q, psum L k = q := ⟨_, rfl⟩
    have hqm : q ≤ 1000000000 - R := by omega
    rw [hq] at hpb ⊢
    have HQ := hide hq
    clear hq hpm hsm
    by_cases hlt : k < 8
    · have cx : wr.cell? ⟨b1, o1 + k, none⟩ = some (.int .i64 (L.getD k 0)) := by
        obtain ⟨n, hn⟩ := unhide hw
        rw [hn]
        show W.cell? _ = _
        rw [(unhide HBW).cell (p := ⟨b1, o1 + k, none⟩) hb1]
        exact unhide HC1 k hlt
      have cy : wr.cell? ⟨b2, o2 + k, none⟩ = some (.int .i64 (zs.getD k 0)) := by
        obtain ⟨n, hn⟩ := unhide hw
        rw [hn]
        show W.cell? _ = _
        rw [(unhide HBW).cell (p := ⟨b2, o2 + k, none⟩) hb2]
        exact unhide HC2 k hlt
      have hx0 := unhide H0 k
      have hxy := unhide H1 k
      have hnx : psum L (k + 1) = q + L.getD k 0 := by rw [← unhide HQ]; rfl
      have hpm := psum_mono (unhide H0) (k + 1) (8 - (k + 1))
      rw [show k + 1 + (8 - (k + 1)) = 8 by omega, unhide HP8, hnx] at hpm
      have hsm := unhide HS
      obtain ⟨x, hx⟩ : ∃ x, L.getD k 0 = x := ⟨_, rfl⟩
      obtain ⟨y, hy⟩ : ∃ y, zs.getD k 0 = y := ⟨_, rfl⟩
      rw [hx] at cx hx0 hxy hnx hpm
      rw [hy] at cy hxy
      have hsum : R + q + x ≤ 1000000000 := by omega
      have HNX := hide hnx
      clear hx hy hnx hpm hsm
      have hng : ¬ x < 0 := by omega
      have hdx : decide (x < 0) = false := decide_eq_false hng
      go_wp2_with fail
      go_quiet (fail)
      go_wp2_with fail
      go_roundw
      case rel => exact ⟨k + 1, by omega, by go_num, by rw [unhide HNX]; go_num, drewN_more (unhide hw)⟩
      case measure => simp [intOf]; omega
    · have hk8 : k = 8 := by omega
      subst hk8
      have hqe : Hid (R + q = m) := by
        show R + q = m
        rw [← unhide HQ, unhide HP8]; exact unhide HS
      rw [unhide hqe]
      have hmm : (m == m) = true := by simp
      go_wp2_with fail
      go_ret
      have hb : Below w.heap.size w wr := by
        obtain ⟨n, hn⟩ := unhide hw
        rw [hn]; exact below_drewN (unhide HBW) n
      exact ⟨by first | rfl | simp, hb⟩

set_option maxHeartbeats 4000000 in
theorem alike_any (a1 : Option Addr) (n1 c1 : Nat) (a2 : Option Addr) (n2 c2 : Nat) (L : List Int) (R : Int) (w : World) (h1 : Ints w a1 n1 L) (h2 : Ints w a2 n2 L) (hn : n1 ≤ 8) :
    Calls Try.prog 52 #[.agg #[.slice a1 n1 c1, .int .i64 R, .bool true], .agg #[.slice a2 n2 c2, .int .i64 R, .bool true]] w fun e w' => e = .returned (.bool true) ∧ Below w.heap.size w w' := by
  have H1 := hide h1
  have H2 := hide h2
  clear h1 h2
  have k1 : (R == R) = true := by simp
  have HB : Hid (Below w.heap.size w ((w.alloc (.cells #[.slice a1 n1 c1, .int .i64 R, .bool true] 53)).alloc (.cells #[.slice a2 n2 c2, .int .i64 R, .bool true] 53))) := ((Below.refl _ _).alloc (Nat.le_refl _) _).alloc (by simp) _
  go_enter Try.func52, Try.ntmps52
  go_wp2_with fail
  refine (same_any _ _ _ L _ _ _ L _ ((unhide H1).below (unhide HB)) ((unhide H2).below (unhide HB)) (by omega)).mono ?_
  rintro e w1 ⟨rfl, n1, rfl⟩
  rw [decide_eq_true (rfl : L = L)]
  go_wp2
  go_ret
  exact ⟨rfl, below_drewN (unhide HB) n1⟩


theorem sound_any (a : Option Addr) (cap : Nat) (zs : List Int) (w : World) (h : Ints w a 8 zs) (hg : givenE zs 0 = 0) :
    Calls Try.prog 28 #[.slice a 8 cap] w fun e w' => e = .returned (.bool true) ∧ w' = w := by
  have HI := hide h
  have HG := hide hg
  clear h hg
  go_enter Try.func28, Try.ntmps28
  go_wp2_with fail
  refine (given_any _ _ _ zs 0 _ (unhide HI) (by omega)).mono ?_
  rintro e w1 ⟨rfl, hw⟩
  have hw := hw.symm
  subst hw
  rw [unhide HG]
  generalize givenP zs 0 = gp
  go_wp2
  go_ret
  exact ⟨rfl, rfl⟩

/-- Is the operation answered OK? -/
def actE (kind a : Int) (s : ByteArray) (p : Pg) : Int := if kind = 3 then checkE s else if kind = 4 then chgE p s a else payE p a
theorem step_ok {kind a : Int} {s : ByteArray} {b : Bk} (hk : 3 ≤ kind ∧ kind ≤ 5) (h : actE kind a s b.now = 0) : ∃ p, stepB kind a s b = b.turn p := by
  unfold actE at h
  unfold stepB
  by_cases k3 : kind = 3
  · rw [if_pos k3] at h
    rw [if_pos k3]
    exact ⟨_, by rw [insB, if_pos h]⟩
  · rw [if_neg k3] at h ⊢
    by_cases k4 : kind = 4
    · rw [if_pos k4] at h ⊢
      exact ⟨_, by rw [chgB, if_pos h]⟩
    · rw [if_neg k4] at h ⊢
      rw [if_pos (by omega)]
      exact ⟨_, by rw [payB, if_pos h]⟩
theorem step_no {kind a : Int} {s : ByteArray} {b : Bk} (hk : 3 ≤ kind ∧ kind ≤ 5) (h : ¬ actE kind a s b.now = 0) : stepB kind a s b = b := by
  unfold actE at h
  unfold stepB
  by_cases k3 : kind = 3
  · rw [if_pos k3] at h ⊢
    rw [insB, if_neg h]
  · rw [if_neg k3] at h ⊢
    by_cases k4 : kind = 4
    · rw [if_pos k4] at h ⊢
      rw [chgB, if_neg h]
    · rw [if_neg k4] at h ⊢
      rw [if_pos (by omega), payB, if_neg h]
theorem stepB_ok {b : Bk} (h : b.Ok) (kind a : Int) (s : ByteArray) : (stepB kind a s b).Ok := by
  unfold stepB
  split
  · exact insB_ok h s
  · split
    · exact chgB_ok h s a
    · split
      · exact payB_ok h a
      · split
        · exact undB_ok h
        · exact h

set_option maxHeartbeats 1000000 in
theorem act_any (P : Nat) (b : Bk) (kind a bb : Int) (s t : ByteArray) (v : Value) (w : World) (h : SBk w P b) (hk : b.Ok) (hs : s.size ≤ 1000000000000000) (hkd : 3 ≤ kind ∧ kind ≤ 5) :
    Calls Try.prog 50 #[.pointer (some ⟨P, 0, none⟩), .agg #[.int .i64 kind, .int .i64 a, .int .i64 bb, .string s, .string t, v]] w fun e w' => e = .returned (.bool (actE kind a s b.now == 0)) ∧ SBk w' P (stepB kind a s b) ∧ Fr (· = P) w w' := by
  obtain ⟨w0, hw0⟩ : ∃ w0, w.alloc (.cells #[.int .i64 kind, .int .i64 a, .int .i64 bb, .string s, .string t, v] 46) = w0 := ⟨_, rfl⟩
  have hb0 : Below w.heap.size w w0 := by rw [← hw0]; exact (Below.refl _ _).alloc (Nat.le_refl _) _
  have orow : w0.heap[w.heap.size]? = some (.cells #[.int .i64 kind, .int .i64 a, .int .i64 bb, .string s, .string t, v] 46 (0, 0)) := by rw [← hw0]; exact heap_alloc_new _ _
  obtain ⟨oc0, oc1, oc3⟩ := op_cell orow
  have HS0 := hide (SRow.below h hb0 (SRow.lt h))
  have HF0 : Hid (Fr (· = P) w w0) := Fr.of_below hb0
  have HK := hide hk
  clear h hb0 hk orow
  obtain rfl | rfl | rfl : kind = 3 ∨ kind = 4 ∨ kind = 5 := by omega
  · have e1 : actE 3 a s b.now = checkE s := rfl
    have e2 : stepB 3 a s b = insB b s := rfl
    rw [e1, e2]
    go_enter Try.func50, Try.ntmps50
    go_wp2_with fail
    try rw [hw0]
    refine (sinstall_any P b s _ (unhide HS0) hs).mono ?_
    rintro e w1 ⟨rfl, s1, f1⟩
    have S1 := hide s1
    have F1 := hide ((unhide HF0).trans f1 fun i hi => .inl hi)
    clear s1 f1 hw0 e1 e2
    generalize hce : checkE s = ce at *
    generalize hcp : (if ce = 0 then 0 else checkP s) = cp at *
    have HC := hide hce
    clear hce hcp
    go_wp2
    go_ret
    exact ⟨by rw [unhide HC]; rfl, unhide S1, unhide F1⟩
  · have e1 : actE 4 a s b.now = chgE b.now s a := rfl
    have e2 : stepB 4 a s b = chgB b s a := rfl
    rw [e1, e2]
    go_enter Try.func50, Try.ntmps50
    go_wp2_with fail
    try rw [hw0]
    refine (scharge_any P b s a _ (unhide HS0) (unhide HK) hs).mono ?_
    rintro e w1 ⟨rfl, s1, f1⟩
    have S1 := hide s1
    have F1 := hide ((unhide HF0).trans f1 fun i hi => .inl hi)
    clear s1 f1 hw0 e1 e2
    generalize hce : chgE b.now s a = ce at *
    have HC := hide hce
    clear hce
    go_wp2
    go_ret
    exact ⟨by rw [unhide HC]; rfl, unhide S1, unhide F1⟩
  · have e1 : actE 5 a s b.now = payE b.now a := rfl
    have e2 : stepB 5 a s b = payB b a := rfl
    rw [e1, e2]
    go_enter Try.func50, Try.ntmps50
    go_wp2_with fail
    try rw [hw0]
    refine (spay_any P b a _ (unhide HS0) (unhide HK)).mono ?_
    rintro e w1 ⟨a1, n1, c1, rfl, i1, ha1, s1, f1⟩
    have S1 := hide s1
    have F1 := hide ((unhide HF0).trans f1 fun i hi => .inl hi)
    clear s1 f1 hw0 e1 e2 i1 ha1
    generalize hce : payE b.now a = ce at *
    generalize payR b.now a = cr at *
    have HC := hide hce
    clear hce
    go_wp2
    go_ret
    exact ⟨by rw [unhide HC]; rfl, unhide S1, unhide F1⟩

/-- The answer's own block is filled. -/
theorem ret_box {w w2 : World} {P R : Nat} {b : Bk} {a : Option Addr} {n : Nat} {L : List Int} (s : SBk w2 P b) (i : Ints w2 a n L) (hR : R ≠ P) (ha : ∀ p, a = some p → p.block ≠ R) (f : Fr (· = P) w w2) (hw : w.heap.size ≤ R) (x y z : Value) :
    Ints (((w2.setCell ⟨R, 0, none⟩ x).setCell ⟨R, 1, none⟩ y).setCell ⟨R, 2, none⟩ z) a n L ∧ SBk (((w2.setCell ⟨R, 0, none⟩ x).setCell ⟨R, 1, none⟩ y).setCell ⟨R, 2, none⟩ z) P b ∧ Fr (· = P) w (((w2.setCell ⟨R, 0, none⟩ x).setCell ⟨R, 1, none⟩ y).setCell ⟨R, 2, none⟩ z) := by
  have g : Fr (· = R) w2 (((w2.setCell ⟨R, 0, none⟩ x).setCell ⟨R, 1, none⟩ y).setCell ⟨R, 2, none⟩ z) := (((Fr.refl (· = R) w2).set (p := ⟨R, 0, none⟩) (.inl rfl) x).set (p := ⟨R, 1, none⟩) (.inl rfl) y).set (p := ⟨R, 2, none⟩) (.inl rfl) z
  exact ⟨g.ints i ha, SRow.fr s g (fun e => hR e.symm), f.trans g fun j hj => .inr (by rw [hj]; exact hw)⟩
theorem box_cells {w w1 : World} {P R : Nat} {x y z : Value} {T : TypeId} (h : w.heap[R]? = some (.cells #[x, y, z] T (0, 0))) (f : Fr (· = P) w w1) (hR : R ≠ P) : w1.cell? ⟨R, 0, none⟩ = some x ∧ w1.cell? ⟨R, 1, none⟩ = some y ∧ w1.cell? ⟨R, 2, none⟩ = some z ∧ ∀ i, w1.frozen? ⟨R, i, none⟩ = false := by
  have h1 : w1.heap[R]? = some (.cells #[x, y, z] T (0, 0)) := (f.block R (cell_lt h) hR).trans h
  refine ⟨?_, ?_, ?_, fun i => frozen_of_row w1 R i _ _ h1⟩
  · rw [cell_of_row w1 R 0 _ _ _ h1]; rfl
  · rw [cell_of_row w1 R 1 _ _ _ h1]; rfl
  · rw [cell_of_row w1 R 2 _ _ _ h1]; rfl

set_option maxHeartbeats 1000000 in
theorem probe_any (P : Nat) (b : Bk) (z : Int) (w : World) (h : SBk w P b) (hk : b.Ok) :
    Calls Try.prog 49 #[.pointer (some ⟨P, 0, none⟩), .int .i64 z] w fun e w' => ∃ (a : Option Addr) (n c : Nat) (b' : Bk), e = .returned (.agg #[.slice a n c, .int .i64 (payR b.now z), .bool true]) ∧ (Ints w' a n (payL b.now z) ∧ SBk w' P b' ∧ Fr (· = P) w w') ∧ (∀ p, a = some p → p.block ≠ P) ∧ b'.Ok ∧ b'.now = b.now := by
  have hPl := SRow.lt h
  obtain ⟨w0, hw0⟩ : ∃ w0, w.alloc (.cells #[.slice none 0 0, .int .i64 0, .bool false] 53) = w0 := ⟨_, rfl⟩
  have hb0 : Below w.heap.size w w0 := by rw [← hw0]; exact (Below.refl _ _).alloc (Nat.le_refl _) _
  have hrow : w0.heap[w.heap.size]? = some (.cells #[.slice none 0 0, .int .i64 0, .bool false] 53 (0, 0)) := by rw [← hw0]; exact heap_alloc_new _ _
  have hz0 : w0.heap.size = w.heap.size + 1 := by rw [← hw0]; simp
  have hRP : w.heap.size ≠ P := by omega
  have HS := hide (SRow.below h hb0 hPl)
  have HF0 : Hid (Fr (· = P) w w0) := Fr.of_below hb0
  have HROW := hide hrow
  have HK := hide hk
  have HW0 := hide hw0
  have hpe := payE_page hk.now z
  clear h hk hb0 hrow hw0
  cases hz : amt z
  · have hE : payE b.now z = 5 := by rw [hpe, hz]; rfl
    have hz' := amt_f.1 hz
    have HPY := hide (spay_any P b z w0 (unhide HS) (unhide HK))
    have hb : payB b z = b := by rw [payB, if_neg (by rw [hE]; decide)]
    rw [hb, hE] at HPY
    generalize payR b.now z = cr at *
    generalize payL b.now z = cl at *
    clear hpe hE hb hz
    rcases hz' with hz' | hz'
    all_goals
      go_enter Try.func49, Try.ntmps49
      go_wp2_with fail
      rw [unhide HW0]
      refine (unhide HPY).mono ?_
      rintro e w1 ⟨a1, n1, c1, rfl, i1, ha1, s1, f1⟩
      obtain ⟨r0, r1, r2, rf⟩ := box_cells (unhide HROW) f1 hRP
      have A1 := hide ha1
      have RB := hide (ret_box s1 i1 hRP (fun p hp => by have := ha1 p hp; omega) ((unhide HF0).trans f1 fun i hi => .inl hi) (Nat.le_refl _) (.slice a1 n1 c1) (.int .i64 cr) (.bool true))
      clear i1 ha1 s1 f1 HPY
      go_wp2
      refine bodyPost_ret (v := .agg #[.slice a1 n1 c1, .int .i64 cr, .bool true]) (by simp [results, Try.results49, go_sem, r0, r1, r2]) rfl ?_
      exact ⟨a1, n1, c1, b, rfl, unhide RB, fun p hp => by have := unhide A1 p hp; omega, unhide HK, rfl⟩
  · have hE : payE b.now z = 0 := by rw [hpe, hz]; rfl
    have hb : payB b z = b.turn ⟨lessZ b.now.owed (payL b.now z) 8, b.now.pol⟩ := by rw [payB, if_pos hE]
    have HU := hide (und_turn b ⟨lessZ b.now.owed (payL b.now z) 8, b.now.pol⟩)
    rw [← hb] at HU
    have HPY := hide (spay_any P b z w0 (unhide HS) (unhide HK))
    have HOK := hide (payB_ok (unhide HK) z)
    have HL8 := hide (pay_parts (unhide HK).now hE).1
    rw [hE] at HPY
    generalize payR b.now z = cr at *
    generalize payL b.now z = cl at *
    generalize payB b z = pb at *
    clear hpe hE hb hz
    go_enter Try.func49, Try.ntmps49
    go_wp2_with fail
    rw [unhide HW0]
    refine (unhide HPY).mono ?_
    rintro e w1 ⟨a1, n1, c1, rfl, i1, ha1, s1, f1⟩
    have hn1 : n1 = 8 := by rw [← i1.1]; exact unhide HL8
    subst hn1
    have I1 := hide i1
    have A1 := hide ha1
    have S1 := hide s1
    have F1 := hide f1
    clear i1 ha1 s1 f1 HPY
    go_wp2_with (go_at_call 13; refine (num_any _ _).mono ?_; rintro e w' ⟨rfl, rfl⟩)
    refine (sundo_any P pb _ (unhide S1)).mono ?_
    rintro e w2 ⟨rfl, s2, f2⟩
    rw [(unhide HU).1]
    have f12 := (unhide F1).trans f2 fun i hi => .inl hi
    obtain ⟨r0, r1, r2, rf⟩ := box_cells (unhide HROW) f12 hRP
    have hap : ∀ p, a1 = some p → p.block ≠ P := fun p hp => by have := unhide A1 p hp; omega
    have RB := hide (ret_box s2 (f2.ints (unhide I1) hap) hRP (fun p hp => by have := unhide A1 p hp; omega) ((unhide HF0).trans f12 fun i hi => .inl hi) (Nat.le_refl _) (.slice a1 8 c1) (.int .i64 cr) (.bool true))
    have HAP := hide hap
    clear s2 f2 hap f12
    go_wp2
    refine bodyPost_ret (v := .agg #[.slice a1 8 c1, .int .i64 cr, .bool true]) (by simp [results, Try.results49, go_sem, r0, r1, r2]) rfl ?_
    exact ⟨a1, 8, c1, undB pb, rfl, unhide RB, unhide HAP, undB_ok (unhide HOK), (unhide HU).2⟩
end Go.Proofs.Ytmdjdpofpkgffab
