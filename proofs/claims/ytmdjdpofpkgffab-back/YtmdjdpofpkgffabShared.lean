/- Shared: Share, Keeps -/
import Derived.Test.YtmdjdpofpkgffabPurseW
import Derived.Test.YtmdjdpofpkgffabSems
import Derived.Test.YtmdjdpofpkgffabEmpty

/- split's Share, for every text. -/
namespace Go.Proofs.Ytmdjdpofpkgffab
open Go.ChangeShapes Go.WideShapes Go.ChangeAt Go.RowKit
open Split (Pu Keeps St SOk execM)
set_option linter.unusedVariables false
set_option linter.unusedSimpArgs false

def pu0 (zs : List Int) (m : Int) : Pu := ⟨m, [], zs, List.replicate 8 0⟩
/-- The purse behind the policy. -/
def shrM (t : ByteArray) (zs : List Int) (m : Int) : Pu := execM (rsE t).ss (rsE t).ss.length 0 (pu0 zs m)

theorem given_ok {zs : List Int} {m : Int} (h : givenE zs m = 0) : zs.length = 8 ∧ (∀ i, 0 ≤ zs.getD i 0 ∧ zs.getD i 0 ≤ 1000000000) ∧ 0 ≤ m ∧ m ≤ 1000000000 := by
  unfold givenE at h
  by_cases hl : zs.length = 8
  · rw [if_pos hl] at h
    by_cases hb : badAt zs < 8
    · rw [if_pos hb] at h; simp at h
    · rw [if_neg hb] at h
      by_cases ha : amt m
      · refine ⟨hl, fun i => ?_, (amt_t.1 ha).1, (amt_t.1 ha).2⟩
        by_cases hi : i < zs.length
        · have : ∀ x ∈ zs, (!amt x) = false := by
            have hfi : List.findIdx (fun z => !amt z) zs = zs.length := by
              have h1 := List.findIdx_le_length (p := fun z => !amt z) (xs := zs)
              unfold badAt at hb
              omega
            rw [List.findIdx_eq_length] at hfi
            exact hfi
          have hx := this _ (Split.getD_mem hi)
          simp at hx
          exact amt_t.1 hx
        · rw [List.getD_eq_getElem?_getD, List.getElem?_eq_none (by omega)]
          simp
      · rw [if_neg ha] at h; simp at h
  · rw [if_neg hl] at h; simp at h

theorem keeps0 {zs : List Int} {m : Int} (h : givenE zs m = 0) : Keeps m zs (pu0 zs m) := by
  obtain ⟨h1, h2, h3, h4⟩ := given_ok h
  refine ⟨h1, by simp [pu0], h3, by simp [pu0], fun i => (h2 i).1, fun i => ?_, ?_, h4, fun i => ?_, fun i => (h2 i).2⟩
  · simp only [pu0, List.getD_eq_getElem?_getD, List.getElem?_replicate]
    split <;> simp
  · simp [pu0]
  · simp only [pu0, List.getD_eq_getElem?_getD, List.getElem?_replicate]
    split <;> simp

def shE (t : ByteArray) (zs : List Int) (m : Int) : Int := if checkE t = 0 then givenE zs m else checkE t
def shP (t : ByteArray) (zs : List Int) (m : Int) : Int := if checkE t = 0 then (if givenE zs m = 0 then 0 else givenP zs m) else checkP t
def shL (t : ByteArray) (zs : List Int) (m : Int) : List Int := if shE t zs m = 0 then (shrM t zs m).paid else []
def shR (t : ByteArray) (zs : List Int) (m : Int) : Int := if shE t zs m = 0 then (shrM t zs m).hand else 0

/-- What steps pay, in plain words: settle's answer. -/
def stL (ss : List St) (zs : List Int) (m : Int) : List Int := if givenE zs m = 0 then (execM ss ss.length 0 (pu0 zs m)).paid else []
def stR (ss : List St) (zs : List Int) (m : Int) : Int := if givenE zs m = 0 then (execM ss ss.length 0 (pu0 zs m)).hand else 0
def stP (zs : List Int) (m : Int) : Int := if givenE zs m = 0 then 0 else givenP zs m

set_option maxHeartbeats 4000000 in
theorem settle_any (ss : List St) (base : Nat) (sa : Option Addr) (scap : Nat) (a : Option Addr) (len cap : Nat) (zs : List Int) (m : Int) (w : World) (h : Ints w a len zs) (hr : len * 8 ≤ 140737488351232)
    (hown : w.ownsRow base 110 12 (.slice sa ss.length scap) ss.length (flat ss)) (hok : ∀ s ∈ ss, SOk s) (hl : ss.length ≤ 200) :
    Calls Try.prog 47 #[.slice sa ss.length scap, .slice a len cap, .int .i64 m] w fun e w' => ∃ (a' : Option Addr) (n c : Nat), e = .returned (.tuple #[.slice a' n c, .int .i64 (stR ss zs m), .int .i64 (givenE zs m), .int .i64 (stP zs m)]) ∧ Ints w' a' n (stL ss zs m) ∧ (∀ b, a' = some b → w.heap.size ≤ b.block) ∧ Below w.heap.size w w' := by
  by_cases hg : givenE zs m = 0
  · have e2 : stP zs m = 0 := by simp [stP, hg]
    have e3 : stL ss zs m = (execM ss ss.length 0 (pu0 zs m)).paid := by simp [stL, hg]
    have e4 : stR ss zs m = (execM ss ss.length 0 (pu0 zs m)).hand := by simp [stR, hg]
    rw [e2, e3, e4, hg]
    obtain ⟨hz8, _, _, _⟩ := given_ok hg
    have h8 : len = 8 := by rw [← h.1, hz8]
    subst h8
    refine (settle_yes sa ss.length scap a cap zs m w h hg (execM ss ss.length 0 (pu0 zs m)).hand (execM ss ss.length 0 (pu0 zs m)).paid (fun w3 hp hb => ?_)).mono ?_
    · have hgo : Calls Try.prog 74 #[.pointer (some ⟨w.heap.size, 0, none⟩), .slice sa ss.length scap] w3 fun e w' => e = .returned (.tuple #[]) ∧ PA w' w.heap.size (execM ss ss.length 0 (pu0 zs m)) ∧ Below w.heap.size w3 w' := by
        by_cases hz : 0 < ss.length
        · obtain ⟨sa', scap', he, hsc, hsa⟩ := own_slice hown
          simp only [Value.slice.injEq, true_and] at he
          obtain ⟨rfl, rfl⟩ := he
          obtain ⟨g, rfl⟩ := hsa hz
          have hgl := (hown.lt g rfl).2
          have hoS : w3.ownsRow base 110 12 (.slice (some ⟨g, 0, none⟩) ss.length scap) ss.length (flat ss) := by
            refine ⟨hown.1, ?_⟩
            rcases hown.2 with ⟨q, _⟩ | ⟨g', cap', cur, q, q1, q2, q3⟩
            · simp at q
            · simp only [Value.slice.injEq, Option.some.injEq, Addr.mk.injEq, and_true, true_and] at q
              obtain ⟨rfl, rfl⟩ := q
              exact .inr ⟨g, scap, cur, rfl, q1, by rw [hb.block g hgl]; exact q2, q3⟩
          exact goThrough_any w.heap.size (pu0 zs m) m zs ss base g scap w3 ⟨_, hp, World.ownsRow_nil _ _ _ _⟩ (keeps0 hg) rfl hoS hgl hok hl
        · have hz0 : ss.length = 0 := by omega
          have hs0 : ss = [] := List.eq_nil_of_length_eq_zero hz0
          subst hs0
          refine (goThrough_nil _ _ _ _).mono ?_
          rintro e w' ⟨rfl, hw⟩
          rw [hw]
          exact ⟨rfl, ⟨_, hp, World.ownsRow_nil _ _ _ _⟩, Below.refl _ _⟩
      refine hgo.mono ?_
      rintro e w4 ⟨rfl, ⟨vh, hP4, _⟩, hb4⟩
      exact ⟨rfl, ⟨_, _, hP4⟩, hb4⟩
    · rintro e w' ⟨g, rfl, hge, hi, hb⟩
      exact ⟨_, _, _, rfl, hi, fun b hb => by simp at hb; subst hb; exact hge, hb⟩
  · have e2 : stP zs m = givenP zs m := by simp [stP, hg]
    have e3 : stL ss zs m = [] := by simp [stL, hg]
    have e4 : stR ss zs m = 0 := by simp [stR, hg]
    rw [e2, e3, e4]
    refine (settle_no sa ss.length scap a len cap zs m w h hr (by simpa using hg)).mono ?_
    rintro e w' ⟨rfl, rfl⟩
    exact ⟨_, _, _, rfl, ⟨rfl, fun h => by omega⟩, fun b hb => by simp at hb, Below.refl _ _⟩

set_option maxHeartbeats 4000000 in
theorem share_any (t : ByteArray) (zs : List Int) (m : Int) (ht : t.size ≤ 1000000000000000) : ShareIs t zs m (shL t zs m) (shR t zs m) (shE t zs m) (shP t zs m) := by
  intro a len cap w h hr
  have hpc := par_check t
  have hparse := parse_any t w ht
  unfold ParsePost at hparse
  rw [hpc.1, hpc.2] at hparse
  have HPS := hide hparse
  clear hparse hpc
  by_cases hc : checkE t = 0
  · have e1 : shE t zs m = givenE zs m := by simp [shE, hc]
    have e2 : shP t zs m = stP zs m := by simp [shP, hc, stP]
    have e3 : shL t zs m = stL (rsE t).ss zs m := by simp only [shL, e1, stL]; rfl
    have e4 : shR t zs m = stR (rsE t).ss zs m := by simp only [shR, e1, stR]; rfl
    rw [e1, e2, e3, e4]
    clear e1 e2 e3 e4
    have HPOL := hide (policy_code t hc)
    rw [hc] at HPS
    have HI := hide h
    clear h hc
    go_enter Try.func21, Try.ntmps21
    go_wp2_with fail
    refine (unhide HPS).mono ?_
    rintro e w1 ⟨vs, rfl, hown, _, hb1⟩
    have hown := hown (by first | rfl | trivial)
    obtain ⟨sa, scap, rfl, hsc, hsa⟩ := own_slice hown
    have HOWN := hide hown
    have HB1 := hide hb1
    have hI1 := hide ((unhide HI).below hb1)
    have hsl := (unhide HPOL).2.2.2.1
    clear hown hb1 HPS hsa
    generalize hcp : checkP t = cp
    clear hcp
    go_wp2_with fail
    refine (settle_any (rsE t).ss _ _ _ _ _ _ zs m _ (unhide hI1) hr (unhide HOWN) (unhide HPOL).2.2.1 (by omega)).mono ?_
    rintro e w2 ⟨a', n, c, rfl, hi2, hf2, hb2⟩
    have HI2 := hide hi2
    have HF2 := hide hf2
    have HB2 := hide hb2
    clear hi2 hf2 hb2
    generalize hge : givenE zs m = ge at *
    generalize hgp : stP zs m = gp at *
    generalize hgr : stR (rsE t).ss zs m = gr at *
    have HG := hide (And.intro hge (And.intro hgp hgr))
    clear hge hgp hgr
    go_wp2_with fail
    refine bodyPost_ret (v := .tuple #[.slice a' n c, .int .i64 gr, .int .i64 ge, .int .i64 gp]) (by simp [results, Try.results21, go_sem]) rfl ?_
    exact ⟨a', n, c, by rw [(unhide HG).1, (unhide HG).2.1, (unhide HG).2.2], unhide HI2, fun b hb => Nat.le_trans (unhide HB1).size (unhide HF2 b hb), below_step (unhide HB1) (unhide HB2)⟩
  · have e1 : shE t zs m = checkE t := by simp [shE, hc]
    have e2 : shP t zs m = checkP t := by simp [shP, hc]
    have e3 : shL t zs m = [] := by simp [shL, e1, hc]
    have e4 : shR t zs m = 0 := by simp [shR, e1, hc]
    rw [e1, e2, e3, e4]
    clear e1 e2 e3 e4
    have hcb : (checkE t != 0) = true := by simpa using hc
    have HC := hide hc
    clear hc
    go_enter Try.func21, Try.ntmps21
    go_wp2_with fail
    refine (unhide HPS).mono ?_
    rintro e w1 ⟨vs, rfl, _, hvs, hb1⟩
    have hvs := hvs (unhide HC)
    subst hvs
    have HB1 := hide hb1
    clear hb1 HPS
    generalize hge : checkE t = ge at *
    generalize hgp : checkP t = gp at *
    have HG := hide (And.intro hge hgp)
    clear hge hgp
    go_wp2_with fail
    refine bodyPost_ret (v := .tuple #[.slice none 0 0, .int .i64 0, .int .i64 ge, .int .i64 gp]) (by simp [results, Try.results21, go_sem]) rfl ?_
    exact ⟨none, 0, 0, by rw [(unhide HG).1, (unhide HG).2], ⟨rfl, fun h => by omega⟩, fun b hb => by simp at hb, unhide HB1⟩
end Go.Proofs.Ytmdjdpofpkgffab

/- Plain: a policy makes and loses nothing. -/
namespace Go.Proofs.Ytmdjdpofpkgffab
open Split (Pu Keeps St SOk execM)
set_option linter.unusedVariables false
set_option linter.unusedSimpArgs false

theorem exec_keeps {M : Int} {o0 : List Int} {ss : List St} (hs : ∀ s ∈ ss, SOk s) : ∀ (f pc : Nat) (p : Pu), Keeps M o0 p → Keeps M o0 (execM ss f pc p)
  | 0, pc, p, h => h
  | f + 1, pc, p, h => by
    by_cases hlt : pc < ss.length
    · simp only [execM, List.getElem?_eq_getElem hlt]
      exact exec_keeps hs f _ _ (Split.do_keeps h (hs _ (List.getElem_mem hlt)))
    · simp only [execM, List.getElem?_eq_none (show ss.length ≤ pc by omega)]
      exact h

theorem shr_keeps {t : ByteArray} {zs : List Int} {m : Int} (hc : checkE t = 0) (hg : givenE zs m = 0) : Keeps m zs (shrM t zs m) ∧ (shrM t zs m).held = [] := by
  obtain ⟨h1, h2, h3, h4, h5, h6⟩ := policy_code t hc
  refine ⟨exec_keeps h3 _ _ _ (keeps0 hg), ?_⟩
  have e : (rsE t).ss = codeJ t 0 := h2
  unfold shrM
  rw [e, exec_sem t h5, sem_held t _ 0 _ (Nat.zero_le _) h5]
  rfl
end Go.Proofs.Ytmdjdpofpkgffab
