/- Shares: the walk. -/
import Derived.Test.YtmdjdpofpkgffabRefShares
namespace Go.Proofs.Ytmdjdpofpkgffab
open Go.ChangeShapes Go.WideShapes Go.ChangeAt Go.RowKit
open Split (Pu Keeps)
set_option linter.unusedVariables false
set_option linter.unusedSimpArgs false

theorem shE_parts {t : ByteArray} {zs : List Int} {m : Int} (hE : shE t zs m = 0) : checkE t = 0 ∧ givenE zs m = 0 := by
  unfold shE at hE
  by_cases hx : checkE t = 0
  · rw [if_pos hx] at hE
    exact ⟨hx, hE⟩
  · rw [if_neg hx] at hE; exact absurd hE hx
theorem shL_len (t : ByteArray) (zs : List Int) (m : Int) : (shL t zs m).length ≤ 8 := by
  by_cases hE : shE t zs m = 0
  · obtain ⟨hc, hg⟩ := shE_parts hE
    have := (shr_keeps hc hg).1.lp
    simp [shL, hE, this]
  · simp [shL, hE]

set_option maxHeartbeats 4000000 in
theorem shares_walk (t : ByteArray) (a : Option Addr) (len cap : Nat) (zs : List Int) (m : Int) (w : World) (ht : t.size ≤ 140737488351232) (h : Ints w a len zs) (hwf : ∀ n ∈ zs, (Lit.int .i64 n).wf = true) (hr : len * 8 ≤ 140737488351232) (hm : (Lit.int .i64 m).wf = true) :
    Calls Try.prog 36 #[.string t, .slice a len cap, .int .i64 m] w fun e w' => e = .returned (.bool true) ∧ Below w.heap.size w w' := by
  have HI := hide h
  have HLL := hide (shL_len t zs m)
  have S1 := hide (share_any t zs m (by omega))
  have S2 := hide (share_any t zs 0 (by omega))
  have S3 := hide (share_any t zs 1 (by omega))
  have S4 := hide (rshare_any t zs m (by omega))
  clear h hwf hm
  generalize shL t zs m = l1 at *
  generalize shR t zs m = r1 at *
  generalize shE t zs m = e1 at *
  generalize shP t zs m = p1 at *
  generalize shL t zs 0 = l2 at *
  generalize shR t zs 0 = r2 at *
  generalize shE t zs 0 = e2 at *
  generalize shP t zs 0 = p2 at *
  generalize shL t zs 1 = l3 at *
  generalize shR t zs 1 = r3 at *
  generalize shE t zs 1 = e3 at *
  generalize shP t zs 1 = p3 at *
  go_enter Try.func36, Try.ntmps36
  go_wp2_with fail
  refine (copied_any a len cap zs _ (unhide HI) hr).mono ?_
  rintro e w1 ⟨rfl, hi1, hb1, _⟩
  have IV1 := hide hi1
  have B1 := hide hb1
  clear hi1 hb1
  go_wp2_with fail
  refine (unhide S1 _ len len w1 (unhide IV1) hr).mono ?_
  rintro e w2 ⟨a2, n2, c2, rfl, hi2, _, hb2⟩
  have IL2 := hide hi2
  have IV2 := hide ((unhide IV1).below hb2)
  have B2 := hide (below_step (unhide B1) hb2)
  have hn2 : n2 ≤ 8 := by have := hi2.1; have := unhide HLL; omega
  clear hi2 hb2 IV1 B1 S1
  go_wp2_with fail
  refine (unhide S2 _ len len w2 (unhide IV2) hr).mono ?_
  rintro e w3 ⟨a3, n3, c3, rfl, _, _, hb3⟩
  have IL3 := hide ((unhide IL2).below hb3)
  have IV3 := hide ((unhide IV2).below hb3)
  have B3 := hide (below_step (unhide B2) hb3)
  clear hb3 IV2 IL2 B2 S2
  go_wp2_with fail
  refine (unhide S3 _ len len w3 (unhide IV3) hr).mono ?_
  rintro e w4 ⟨a4, n4, c4, rfl, _, _, hb4⟩
  have IL4 := hide ((unhide IL3).below hb4)
  have IV4 := hide ((unhide IV3).below hb4)
  have B4 := hide (below_step (unhide B3) hb4)
  clear hb4 IV3 IL3 B3 S3
  go_wp2_with fail
  refine (unhide S4 a len cap w4 ((unhide HI).below (unhide B4)) hr).mono ?_
  rintro e w5 ⟨a5, n5, c5, rfl, hi5, _, hb5⟩
  have IM5 := hide hi5
  have IL5 := hide ((unhide IL4).below hb5)
  have IV5 := hide ((unhide IV4).below hb5)
  have B5 := hide (below_step (unhide B4) hb5)
  clear hi5 hb5 IV4 IL4 B4 S4
  go_wp2_with fail
  refine (same_any _ _ _ l1 _ _ _ l1 _ (unhide IL5) (unhide IM5) (by omega)).mono ?_
  rintro e w6 ⟨rfl, n6, hw6⟩
  have hb6 : Below w5.heap.size w5 w6 := by rw [hw6]; exact below_drewN (Below.refl _ _) _
  have IV6 := hide ((unhide IV5).below hb6)
  have B6 := hide (below_step (unhide B5) hb6)
  clear hw6 hb6 IV5 IM5 IL5 B5
  rw [decide_eq_true (rfl : l1 = l1)]
  go_wp2_with fail
  refine (same_any _ _ _ zs _ _ _ zs _ (unhide IV6) ((unhide HI).below (unhide B6)) hr).mono ?_
  rintro e w7 ⟨rfl, n7, hw7⟩
  have hb7 : Below w6.heap.size w6 w7 := by rw [hw7]; exact below_drewN (Below.refl _ _) _
  have B7 := hide (below_step (unhide B6) hb7)
  clear hw7 hb7 IV6 B6
  rw [decide_eq_true (rfl : zs = zs)]
  have k1 : (r1 == r1) = true := by simp
  have k2 : (e1 == e1) = true := by simp
  have k3 : (p1 == p1) = true := by simp
  go_wp2
  go_ret
  exact ⟨rfl, unhide B7⟩
end Go.Proofs.Ytmdjdpofpkgffab
