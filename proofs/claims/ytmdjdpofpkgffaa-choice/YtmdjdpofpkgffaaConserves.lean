/- Conserves: the walk. -/
import Derived.Test.YtmdjdpofpkgffaaLshare
import Derived.Test.YtmdjdpofpkgffaaShared
namespace Go.Proofs.Ytmdjdpofpkgffaa
open Go.ChangeShapes Go.WideShapes Go.ChangeAt Go.RowKit
open Split (Pu Keeps St SOk execM)
set_option linter.unusedVariables false
set_option linter.unusedSimpArgs false

/-- The sum of the first k numbers. -/
def psum (L : List Int) : Nat → Int
  | 0 => 0
  | k + 1 => psum L k + L.getD k 0
theorem psum_cons (x : Int) (L : List Int) : ∀ k, psum (x :: L) (k + 1) = x + psum L k
  | 0 => by simp [psum]
  | k + 1 => by
    have := psum_cons x L k
    show psum (x :: L) (k + 1) + (x :: L).getD (k + 1) 0 = x + (psum L k + L.getD k 0)
    rw [this, List.getD_cons_succ]
    omega
theorem psum_all : ∀ (L : List Int), psum L L.length = L.sum
  | [] => rfl
  | x :: L => by
    rw [List.length_cons, psum_cons, psum_all L, List.sum_cons]
theorem psum_mono {L : List Int} (h : ∀ i, 0 ≤ L.getD i 0) (k : Nat) : ∀ d, psum L k ≤ psum L (k + d)
  | 0 => Int.le_refl _
  | d + 1 => by
    have := psum_mono h k d
    have := h (k + d)
    show _ ≤ psum L (k + d) + L.getD (k + d) 0
    omega
theorem psum_nonneg {L : List Int} (h : ∀ i, 0 ≤ L.getD i 0) (k : Nat) : 0 ≤ psum L k := by
  have := psum_mono h 0 k
  simpa [psum] using this

theorem fit_any (t : ByteArray) (a : Option Addr) (len cap : Nat) (zs : List Int) (m : Int) (w : World) (ht : t.size ≤ 1000000000000000) (h : Ints w a len zs) (hr : len * 8 ≤ 140737488351232) :
    Calls Try.prog 23 #[.string t, .slice a len cap, .int .i64 m] w fun e w' => e = .returned (.bool (checkE t == 0 && givenE zs m == 0)) ∧ ∃ n, w' = w.drewN n := by
  have HI := hide h
  clear h
  go_enter Try.func23, Try.ntmps23
  go_wp2_with fail
  refine (rcheck_any t _ ht).mono ?_
  rintro e w1 ⟨rfl, n, rfl⟩
  generalize hce : checkE t = ce
  generalize hcp : checkP t = cp
  have HC := hide hce
  clear hce hcp
  go_wp2_with fail
  refine (given_any _ _ _ zs m _ (by exact unhide HI) hr).mono ?_
  rintro e w2 ⟨rfl, rfl⟩
  generalize hge : givenE zs m = ge at *
  generalize hgp : givenP zs m = gp at *
  have HG := hide (And.intro hge hgp)
  clear hge hgp
  cases hcb : (ce == 0)
  · go_wp2_with fail
    go_ret
    exact ⟨by rw [unhide HC, hcb]; rfl, n, rfl⟩
  · go_wp2_with fail
    go_ret
    exact ⟨by rw [unhide HC, hcb, (unhide HG).1]; rfl, n, rfl⟩

set_option maxHeartbeats 4000000 in
theorem whole_true (a' : Option Addr) (c : Nat) (L : List Int) (R : Int) (a : Option Addr) (cap : Nat) (zs : List Int) (m : Int) (w : World) (hL : Ints w a' 8 L) (hZ : Ints w a 8 zs)
    (h0 : ∀ i, 0 ≤ L.getD i 0) (h1 : ∀ i, L.getD i 0 ≤ zs.getD i 0) (hR : 0 ≤ R) (hs : R + L.sum = m) (hm : m ≤ 1000000000) :
    Calls Try.prog 24 #[.agg #[.slice a' 8 c, .int .i64 R, .bool true], .slice a 8 cap, .int .i64 m] w fun e w' => e = .returned (.bool true) ∧ Below w.heap.size w w' := by
  have hp8 : psum L 8 = L.sum := by rw [← psum_all, hL.1]
  obtain ⟨b1, o1, rfl, hc1⟩ := hL.2 (by omega)
  obtain ⟨b2, o2, rfl, hc2⟩ := hZ.2 (by omega)
  have hb1 : b1 < w.heap.size := by
    have := hc1 0 (by omega)
    by_cases hx : b1 < w.heap.size
    · exact hx
    · simp [World.cell?, hx] at this
  have hb2 : b2 < w.heap.size := by
    have := hc2 0 (by omega)
    by_cases hx : b2 < w.heap.size
    · exact hx
    · simp [World.cell?, hx] at this
  have HC1 := hide hc1
  have HC2 := hide hc2
  have H0 := hide h0
  have H1 := hide h1
  have HS := hide hs
  have HP8 := hide hp8
  clear hL hZ hc1 hc2 h0 h1 hs hp8
  obtain ⟨W, hW⟩ : ∃ W, w.alloc (.cells #[.slice (some ⟨b1, o1, none⟩) 8 c, .int .i64 R, .bool true] 38) = W := ⟨_, rfl⟩
  have HBW : Hid (Below w.heap.size w W) := by
    show Below w.heap.size w W
    rw [← hW]; exact (Below.refl _ _).alloc (Nat.le_refl _) _
  have hrow : W.heap[w.heap.size]? = some (.cells #[.slice (some ⟨b1, o1, none⟩) 8 c, .int .i64 R, .bool true] 38 (0, 0)) := by rw [← hW]; exact heap_alloc_new _ _
  have HROW := hide hrow
  clear hrow
  have HW := hide hW
  clear hW
  go_enter Try.func24, Try.ntmps24
  go_wp2_with fail
  rw [unhide HW]
  go_loopw [7, 8] (fun ss ii wr => ∃ k : Nat, k ≤ 8 ∧ ii = .int .i64 k ∧ ss = .int .i64 (R + psum L k) ∧ Hid (∃ n, wr = W.drewN n)) (fun _ ii _ => 8 - (intOf ii).toNat)
  case atStart => exact ⟨0, by omega, rfl, by simp [psum], ⟨0, rfl⟩⟩
  case round =>
    obtain ⟨k, hk, rfl, rfl, hw⟩ := hrel
    have hrow : wr.heap[w.heap.size]? = some (.cells #[.slice (some ⟨b1, o1, none⟩) 8 c, .int .i64 R, .bool true] 38 (0, 0)) := by
      obtain ⟨n, hn⟩ := unhide hw
      rw [hn]; exact unhide HROW
    have p0 := cell_of_row wr w.heap.size 0 _ _ _ hrow
    have p1 := cell_of_row wr w.heap.size 1 _ _ _ hrow
    have p2 := cell_of_row wr w.heap.size 2 _ _ _ hrow
    simp at p0 p1 p2
    clear hrow
    have hpb := psum_nonneg (unhide H0) k
    have hpm := psum_mono (unhide H0) k (8 - k)
    rw [show k + (8 - k) = 8 by omega, unhide HP8] at hpm
    have hsm := unhide HS
    obtain ⟨q, hq⟩ : ∃ q, psum L k = q := ⟨_, rfl⟩
    have hqm : q ≤ 1000000000 - R := by omega
    rw [hq] at hpb ⊢
    have HQ := hide hq
    clear hq hpm hsm
    by_cases hlt : k < 8
    · have cx : wr.cell? ⟨b1, o1 + k, none⟩ = some (.int .i64 (L.getD k 0)) := by
        obtain ⟨n, hn⟩ := unhide hw
        rw [hn]
        show W.cell? _ = _
        rw [(unhide HBW).cell (p := ⟨b1, o1 + k, none⟩) hb1]
        exact unhide HC1 k hlt
      have cy : wr.cell? ⟨b2, o2 + k, none⟩ = some (.int .i64 (zs.getD k 0)) := by
        obtain ⟨n, hn⟩ := unhide hw
        rw [hn]
        show W.cell? _ = _
        rw [(unhide HBW).cell (p := ⟨b2, o2 + k, none⟩) hb2]
        exact unhide HC2 k hlt
      have hx0 := unhide H0 k
      have hxy := unhide H1 k
      have hnx : psum L (k + 1) = q + L.getD k 0 := by rw [← unhide HQ]; rfl
      have hpm := psum_mono (unhide H0) (k + 1) (8 - (k + 1))
      rw [show k + 1 + (8 - (k + 1)) = 8 by omega, unhide HP8, hnx] at hpm
      have hsm := unhide HS
      obtain ⟨x, hx⟩ : ∃ x, L.getD k 0 = x := ⟨_, rfl⟩
      obtain ⟨y, hy⟩ : ∃ y, zs.getD k 0 = y := ⟨_, rfl⟩
      rw [hx] at cx hx0 hxy hnx hpm
      rw [hy] at cy hxy
      have hsum : R + q + x ≤ 1000000000 := by omega
      have HNX := hide hnx
      clear hx hy hnx hpm hsm
      have hng : ¬ x < 0 := by omega
      have hdx : decide (x < 0) = false := decide_eq_false hng
      go_wp2_with fail
      go_quiet (fail)
      go_wp2_with fail
      go_roundw
      case rel => exact ⟨k + 1, by omega, by go_num, by rw [unhide HNX]; go_num, drewN_more (unhide hw)⟩
      case measure => simp [intOf]; omega
    · have hk8 : k = 8 := by omega
      subst hk8
      have hqe : Hid (R + q = m) := by
        show R + q = m
        rw [← unhide HQ, unhide HP8]; exact unhide HS
      rw [unhide hqe]
      have hmm : (m == m) = true := by simp
      go_wp2_with fail
      go_ret
      have hb : Below w.heap.size w wr := by
        obtain ⟨n, hn⟩ := unhide hw
        rw [hn]; exact below_drewN (unhide HBW) n
      exact ⟨by first | rfl | simp, hb⟩

set_option maxHeartbeats 4000000 in
theorem conserves_walk (t : ByteArray) (a : Option Addr) (len cap : Nat) (zs : List Int) (m : Int) (w : World) (ht : t.size ≤ 140737488351232) (h : Ints w a len zs) (hwf : ∀ n ∈ zs, (Lit.int .i64 n).wf = true) (hr : len * 8 ≤ 140737488351232) (hm : (Lit.int .i64 m).wf = true) :
    Calls Try.prog 5 #[.string t, .slice a len cap, .int .i64 m] w fun e w' => e = .returned (.bool true) ∧ Below w.heap.size w w' := by
  have HI := hide h
  clear h hwf hm
  have HS := hide (lshare_of t zs m _ _ _ _ (share_any t zs m (by omega)) a len cap w (unhide HI) hr)
  by_cases hE : shE t zs m = 0
  · have hc : checkE t = 0 := by
      unfold shE at hE
      by_cases hx : checkE t = 0
      · exact hx
      · rw [if_neg hx] at hE; exact absurd hE hx
    have hg : givenE zs m = 0 := by
      unfold shE at hE
      rw [if_pos hc] at hE
      exact hE
    have e3 : shL t zs m = (shrM t zs m).paid := by simp [shL, hE]
    have e4 : shR t zs m = (shrM t zs m).hand := by simp [shR, hE]
    rw [e3, e4, hE] at HS
    obtain ⟨hk, hh⟩ := shr_keeps hc hg
    obtain ⟨hz8, _, _, hm9⟩ := given_ok hg
    have h8 : len = 8 := by rw [← (unhide HI).1, hz8]
    subst h8
    have HK := hide (And.intro hk hh)
    have HCG := hide (And.intro hc hg)
    have hlp := hk.lp
    clear hk hh hc hg e3 e4 hE hz8
    generalize shrM t zs m = q at *
    go_enter Try.func5, Try.ntmps5
    go_wp2_with fail
    refine (unhide HS).mono ?_
    rintro e w1 ⟨a', n, c, rfl, hi1, hb1⟩
    have hn8 : n = 8 := by rw [← hi1.1]; exact hlp
    subst hn8
    have HI1 := hide (hi1.below ((Below.refl _ _).alloc (Nat.le_refl _) (.cells #[.slice a' 8 c, .int .i64 q.hand, .bool true] 38)))
    have HB1 := hide (below_step hb1 ((Below.refl _ _).alloc (Nat.le_refl _) (.cells #[.slice a' 8 c, .int .i64 q.hand, .bool true] 38)))
    have HW := hide ((unhide HI).below (unhide HB1))
    clear hi1 hb1 HS
    go_wp2_with fail
    refine (fit_any t a 8 cap zs m _ (by omega) (unhide HW) hr).mono ?_
    rintro e w2 ⟨rfl, n2, rfl⟩
    rw [(unhide HCG).1, (unhide HCG).2]
    go_wp2_with fail
    refine (whole_true a' c q.paid q.hand a cap zs m _ (by exact unhide HI1) (by exact unhide HW) (unhide HK).1.pa ?_ (unhide HK).1.h0 ?_ hm9).mono ?_
    · intro i
      have h1 := (unhide HK).1.tot i
      have h2 := (unhide HK).1.ow i
      omega
    · have h1 := (unhide HK).1.sum
      rw [(unhide HK).2] at h1
      simpa using h1
    rintro e w3 ⟨rfl, hb3⟩
    have HB3 := hide hb3
    clear hb3
    go_wp2_with fail
    go_ret
    exact ⟨rfl, below_step (unhide HB1) (by exact below_step (below_drewN (Below.refl _ _) n2) (unhide HB3))⟩
  · have hnot : (checkE t == 0 && givenE zs m == 0) = false := by
      rw [Bool.and_eq_false_iff]
      unfold shE at hE
      by_cases hx : checkE t = 0
      · right
        rw [if_pos hx] at hE
        simpa using hE
      · left
        simpa using hx
    have e3 : shL t zs m = [] := by simp [shL, hE]
    have e4 : shR t zs m = 0 := by simp [shR, hE]
    have e5 : (shE t zs m == 0) = false := by simpa using hE
    rw [e3, e4, e5] at HS
    have HN := hide hnot
    clear e3 e4 e5 hE hnot
    go_enter Try.func5, Try.ntmps5
    go_wp2_with fail
    refine (unhide HS).mono ?_
    rintro e w1 ⟨a', n, c, rfl, hi1, hb1⟩
    have hn0 : n = 0 := by rw [← hi1.1]; rfl
    subst hn0
    have HB1 := hide (below_step hb1 ((Below.refl _ _).alloc (Nat.le_refl _) (.cells #[.slice a' 0 c, .int .i64 0, .bool false] 38)))
    have HW := hide ((unhide HI).below (unhide HB1))
    clear hi1 hb1 HS
    go_wp2_with fail
    refine (fit_any t a len cap zs m _ (by omega) (by exact unhide HW) hr).mono ?_
    rintro e w2 ⟨rfl, n2, rfl⟩
    rw [unhide HN]
    go_wp2_with fail
    go_ret
    exact ⟨by first | rfl | simp, below_drewN (unhide HB1) n2⟩
end Go.Proofs.Ytmdjdpofpkgffaa
