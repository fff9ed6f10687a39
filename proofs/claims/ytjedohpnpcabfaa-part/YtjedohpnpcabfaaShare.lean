/- split's Share, for every text. -/
import Derived.Test.YtjedohpnpcabfaaThru
import Derived.Test.YtjedohpnpcabfaaCodeOk
import Derived.Test.YtjedohpnpcabfaaEmpty
namespace Go.Proofs.Ytjedohpnpcabfaa
open Go.ChangeShapes Go.WideShapes Go.ChangeAt Go.RowKit
open Split (Pu Keeps St SOk execM)
set_option linter.unusedVariables false
set_option linter.unusedSimpArgs false

theorem goThrough_nil (P : Nat) (a : Option Addr) (cap : Nat) (w : World) : Calls Try.prog 34 #[.pointer (some ⟨P, 0, none⟩), .slice a 0 cap] w fun e w' => e = .returned (.tuple #[]) ∧ w' = w := by
  go_enter Try.func34, Try.ntmps34
  go_wp2_with fail
  refine wp_loop_rounds 1 ?_
  rw [rounds_succ]
  go_wp2_with fail
  go_end0
  exact ⟨rfl, rfl⟩

def pu0 (zs : List Int) (m : Int) : Pu := ⟨m, [], zs, List.replicate 8 0⟩
/-- The purse behind the policy. -/
def shrM (t : ByteArray) (zs : List Int) (m : Int) : Pu := execM (rsE t).ss (rsE t).ss.length 0 (pu0 zs m)

theorem given_ok {zs : List Int} {m : Int} (h : givenE zs m = 0) : zs.length = 8 ∧ (∀ i, 0 ≤ zs.getD i 0 ∧ zs.getD i 0 ≤ 1000000000) ∧ 0 ≤ m ∧ m ≤ 1000000000 := by
  unfold givenE at h
  by_cases hl : zs.length = 8
  · rw [if_pos hl] at h
    by_cases hb : badAt zs < 8
    · rw [if_pos hb] at h; simp at h
    · rw [if_neg hb] at h
      by_cases ha : amt m
      · refine ⟨hl, fun i => ?_, (amt_t.1 ha).1, (amt_t.1 ha).2⟩
        by_cases hi : i < zs.length
        · have : ∀ x ∈ zs, (!amt x) = false := by
            have hfi : List.findIdx (fun z => !amt z) zs = zs.length := by
              have h1 := List.findIdx_le_length (p := fun z => !amt z) (xs := zs)
              unfold badAt at hb
              omega
            rw [List.findIdx_eq_length] at hfi
            exact hfi
          have hx := this _ (Split.getD_mem hi)
          simp at hx
          exact amt_t.1 hx
        · rw [List.getD_eq_getElem?_getD, List.getElem?_eq_none (by omega)]
          simp
      · rw [if_neg ha] at h; simp at h
  · rw [if_neg hl] at h; simp at h

theorem keeps0 {zs : List Int} {m : Int} (h : givenE zs m = 0) : Keeps m zs (pu0 zs m) := by
  obtain ⟨h1, h2, h3, h4⟩ := given_ok h
  refine ⟨h1, by simp [pu0], h3, by simp [pu0], fun i => (h2 i).1, fun i => ?_, ?_, h4, fun i => ?_, fun i => (h2 i).2⟩
  · simp only [pu0, List.getD_eq_getElem?_getD, List.getElem?_replicate]
    split <;> simp
  · simp [pu0]
  · simp only [pu0, List.getD_eq_getElem?_getD, List.getElem?_replicate]
    split <;> simp

def shE (t : ByteArray) (zs : List Int) (m : Int) : Int := if checkE t = 0 then givenE zs m else checkE t
def shP (t : ByteArray) (zs : List Int) (m : Int) : Int := if checkE t = 0 then (if givenE zs m = 0 then 0 else givenP zs m) else checkP t
def shL (t : ByteArray) (zs : List Int) (m : Int) : List Int := if shE t zs m = 0 then (shrM t zs m).paid else []
def shR (t : ByteArray) (zs : List Int) (m : Int) : Int := if shE t zs m = 0 then (shrM t zs m).hand else 0

set_option maxHeartbeats 4000000 in
theorem share_any (t : ByteArray) (zs : List Int) (m : Int) (ht : t.size ≤ 1000000000000000) : ShareIs t zs m (shL t zs m) (shR t zs m) (shE t zs m) (shP t zs m) := by
  intro a len cap w h hr
  have hpc := par_check t
  have hparse := parse_any t w ht
  unfold ParsePost at hparse
  rw [hpc.1, hpc.2] at hparse
  have HPS := hide hparse
  clear hparse hpc
  by_cases hc : checkE t = 0
  · by_cases hg : givenE zs m = 0
    · have e1 : shE t zs m = 0 := by simp [shE, hc, hg]
      have e2 : shP t zs m = 0 := by simp [shP, hc, hg]
      have e3 : shL t zs m = (shrM t zs m).paid := by simp [shL, e1]
      have e4 : shR t zs m = (shrM t zs m).hand := by simp [shR, e1]
      rw [e1, e2, e3, e4]
      clear e1 e2 e3 e4
      obtain ⟨hz8, _, _, _⟩ := given_ok hg
      have h8 : len = 8 := by rw [← h.1, hz8]
      subst h8
      have hkp := keeps0 hg
      have hpol := policy_code t hc
      have HPOL := hide hpol
      have HKP := hide hkp
      rw [hc] at HPS
      have HG := hide hg
      have HI := hide h
      clear hkp hpol hg h hc hz8 hr
      go_enter Try.func16, Try.ntmps16
      go_wp2_with fail
      refine (unhide HPS).mono ?_
      rintro e w1 ⟨vs, rfl, hown, _, hb1⟩
      have hown := hown (by first | rfl | trivial)
      obtain ⟨sa, scap, rfl, hsc, hsa⟩ := own_slice hown
      have HOWN := hide hown
      have HB1 := hide hb1
      have hI1 := hide ((unhide HI).below hb1)
      have hsl := (unhide HPOL).2.2.2.1
      clear hown hb1
      generalize hcp : checkP t = cp
      clear hcp
      go_wp2_with fail
      refine (checkAmounts_any _ _ _ zs m _ (unhide hI1) (by omega)).mono ?_
      rintro e w2 ⟨rfl, hw⟩
      have hw := hw.symm
      subst hw
      rw [unhide HG]
      generalize hgp : givenP zs m = gp
      clear hgp
      go_wp2_with fail
      refine (newPurse_any _ _ zs m _ (unhide hI1)).mono ?_
      rintro e w3 ⟨rfl, hp, hb3⟩
      have HP := hide hp
      have HB3 := hide hb3
      clear hp hb3
      go_wp2_with fail
      have hgo : Calls Try.prog 34 #[.pointer (some ⟨w1.heap.size, 0, none⟩), .slice sa (rsE t).ss.length scap] w3 fun e w' => e = .returned (.tuple #[]) ∧ PA w' w1.heap.size (shrM t zs m) ∧ Below w1.heap.size w3 w' := by
        by_cases hz : 0 < (rsE t).ss.length
        · obtain ⟨g, rfl⟩ := hsa hz
          have hgl := ((unhide HOWN).lt g rfl).2
          have hoS : w3.ownsRow w.heap.size 80 12 (.slice (some ⟨g, 0, none⟩) (rsE t).ss.length scap) (rsE t).ss.length (flat (rsE t).ss) := by
            refine ⟨(unhide HOWN).1, ?_⟩
            rcases (unhide HOWN).2 with ⟨q, _⟩ | ⟨g', cap', cur, q, q1, q2, q3⟩
            · simp at q
            · simp only [Value.slice.injEq, Option.some.injEq, Addr.mk.injEq, and_true, true_and] at q
              obtain ⟨rfl, rfl⟩ := q
              exact .inr ⟨g, scap, cur, rfl, q1, by rw [(unhide HB3).block g hgl]; exact q2, q3⟩
          exact goThrough_any w1.heap.size (pu0 zs m) m zs (rsE t).ss w.heap.size g scap w3 ⟨_, unhide HP, World.ownsRow_nil _ _ _ _⟩ (unhide HKP) rfl hoS hgl (unhide HPOL).2.2.1 (by omega)
        · have hz0 : (rsE t).ss.length = 0 := by omega
          have hs0 : (rsE t).ss = [] := List.eq_nil_of_length_eq_zero hz0
          rw [hz0]
          refine (goThrough_nil _ _ _ _).mono ?_
          rintro e w' ⟨rfl, hw⟩
          rw [hw]
          refine ⟨rfl, ?_, Below.refl _ _⟩
          have : shrM t zs m = pu0 zs m := by simp [shrM, hs0, execM]
          rw [this]
          exact ⟨_, unhide HP, World.ownsRow_nil _ _ _ _⟩
      refine hgo.mono ?_
      rintro e w4 ⟨rfl, hp4, hb4⟩
      clear hgo
      obtain ⟨vh, hP4, _⟩ := hp4
      have HP4 := hide hP4
      have HB4 := hide (below_step (unhide HB1) (show Below w1.heap.size w1 w4 from (unhide HB3).trans hb4))
      clear hP4 hb4 HOWN HPS HPOL
      go_wp2_with fail
      refine (paidList_any _ _ _ _ _ _ (unhide HP4)).mono ?_
      rintro e w5 ⟨rfl, hi5, hb5, hl5⟩
      have HI5 := hide hi5
      have HB5 := hide hb5
      have hh := ((unhide HP4).below hb5 (unhide HP4).lt).hand_cell
      clear hi5 hb5 hl5
      obtain ⟨rr, hrr⟩ : ∃ rr, (shrM t zs m).hand = rr := ⟨_, rfl⟩
      rw [hrr] at hh
      have HRR := hide hrr
      clear hrr
      go_wp2_with fail
      go_quiet (fail)
      go_wp2_with fail
      refine bodyPost_ret (v := .tuple #[.slice (some ⟨w4.heap.size, 0, none⟩) 8 8, .int .i64 rr, .int .i64 0, .int .i64 0]) (by simp [results, Try.results16, go_sem]) rfl ?_
      refine ⟨_, _, _, by rw [unhide HRR], unhide HI5, fun b hb => ?_, below_drewN (below_step (unhide HB4) (unhide HB5)) _⟩
      simp at hb
      subst hb
      exact (unhide HB4).size
    · have e1 : shE t zs m = givenE zs m := by simp [shE, hc]
      have e2 : shP t zs m = givenP zs m := by simp [shP, hc, hg]
      have e3 : shL t zs m = [] := by simp [shL, e1, hg]
      have e4 : shR t zs m = 0 := by simp [shR, e1, hg]
      rw [e1, e2, e3, e4]
      clear e1 e2 e3 e4
      rw [hc] at HPS
      have hgb : (givenE zs m != 0) = true := by simpa using hg
      have HI := hide h
      clear h hc hg
      go_enter Try.func16, Try.ntmps16
      go_wp2_with fail
      refine (unhide HPS).mono ?_
      rintro e w1 ⟨vs, rfl, hown, _, hb1⟩
      have HB1 := hide hb1
      have hI1 := hide ((unhide HI).below hb1)
      clear hown hb1 HPS
      generalize hcp : checkP t = cp
      clear hcp
      go_wp2_with fail
      refine (checkAmounts_any _ _ _ zs m _ (unhide hI1) hr).mono ?_
      rintro e w2 ⟨rfl, hw⟩
      have hw := hw.symm
      subst hw
      generalize hge : givenE zs m = ge at *
      generalize hgp : givenP zs m = gp at *
      have HG := hide (And.intro hge hgp)
      clear hge hgp
      go_wp2_with fail
      refine bodyPost_ret (v := .tuple #[.slice none 0 0, .int .i64 0, .int .i64 ge, .int .i64 gp]) (by simp [results, Try.results16, go_sem]) rfl ?_
      exact ⟨none, 0, 0, by rw [(unhide HG).1, (unhide HG).2], ⟨rfl, fun h => by omega⟩, fun b hb => by simp at hb, unhide HB1⟩
  · have e1 : shE t zs m = checkE t := by simp [shE, hc]
    have e2 : shP t zs m = checkP t := by simp [shP, hc]
    have e3 : shL t zs m = [] := by simp [shL, e1, hc]
    have e4 : shR t zs m = 0 := by simp [shR, e1, hc]
    rw [e1, e2, e3, e4]
    clear e1 e2 e3 e4
    have hcb : (checkE t != 0) = true := by simpa using hc
    have HC := hide hc
    clear hc
    go_enter Try.func16, Try.ntmps16
    go_wp2_with fail
    refine (unhide HPS).mono ?_
    rintro e w1 ⟨vs, rfl, _, hvs, hb1⟩
    have hvs := hvs (unhide HC)
    subst hvs
    have HB1 := hide hb1
    clear hb1 HPS
    generalize hge : checkE t = ge at *
    generalize hgp : checkP t = gp at *
    have HG := hide (And.intro hge hgp)
    clear hge hgp
    go_wp2_with fail
    refine bodyPost_ret (v := .tuple #[.slice none 0 0, .int .i64 0, .int .i64 ge, .int .i64 gp]) (by simp [results, Try.results16, go_sem]) rfl ?_
    exact ⟨none, 0, 0, by rw [(unhide HG).1, (unhide HG).2], ⟨rfl, fun h => by omega⟩, fun b hb => by simp at hb, unhide HB1⟩
end Go.Proofs.Ytjedohpnpcabfaa
