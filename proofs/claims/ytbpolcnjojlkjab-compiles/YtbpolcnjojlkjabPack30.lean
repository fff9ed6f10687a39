/- Empty, Share, Keeps -/
import Derived.Test.YtbpolcnjojlkjabPack9
import Derived.Test.YtbpolcnjojlkjabPack12
import Derived.Test.YtbpolcnjojlkjabPack24
import Derived.Test.YtbpolcnjojlkjabPack25

/- The empty policy. -/
namespace Go.Proofs.Ytbpolcnjojlkjab
open Go.ChangeShapes Go.WideShapes Go.ChangeAt Go.RowKit
set_option linter.unusedVariables false
set_option linter.unusedSimpArgs false

theorem scan_empty (d : Int) (w : World) : Calls Try.prog 19 #[.string ⟨#[]⟩, .int .i64 0, .int .i64 d] w fun e w' => e = .returned (.tuple #[.int .i64 0, .int .i64 (-1), .bool true]) ∧ w' = w := by
  go_enter Try.func19, Try.ntmps19
  go_wp2_with fail
  refine wp_loop_rounds 1 ?_
  rw [rounds_succ]
  go_wp2_with fail
  go_ret3
  exact ⟨rfl, rfl⟩

theorem rcheck_empty (w : World) : Calls Try.prog 6 #[.string ⟨#[]⟩] w fun e w' => e = .returned (.tuple #[.int .i64 0, .int .i64 0]) ∧ w' = w := by
  go_enter Try.func6, Try.ntmps6
  go_wp2_with (go_at_call 19; refine (scan_empty _ _).mono ?_; rintro e w' ⟨rfl, rfl⟩)
  go_ret2
  exact ⟨rfl, rfl⟩

theorem goThrough_nil (P : Nat) (a : Option Addr) (cap : Nat) (w : World) : Calls Try.prog 40 #[.pointer (some ⟨P, 0, none⟩), .slice a 0 cap] w fun e w' => e = .returned (.tuple #[]) ∧ w' = w := by
  go_enter Try.func40, Try.ntmps40
  go_wp2_with fail
  refine wp_loop_rounds 1 ?_
  rw [rounds_succ]
  go_wp2_with fail
  go_end0
  exact ⟨rfl, rfl⟩

theorem readAll_empty (R : Nat) (w : World) (h0 : w.cell? ⟨R, 0, none⟩ = some (.string ⟨#[]⟩)) (h1 : w.cell? ⟨R, 1, none⟩ = some (.int .i64 0)) (h2 : w.cell? ⟨R, 2, none⟩ = some (.bool false)) (h4 : w.cell? ⟨R, 4, none⟩ = some (.slice none 0 0)) :
    Calls Try.prog 28 #[.pointer (some ⟨R, 0, none⟩)] w fun e w' => e = .returned (.tuple #[]) ∧ ∃ n, w' = w.drewN n := by
  go_enter Try.func28, Try.ntmps28
  go_wp2_with fail
  refine wp_loop_rounds 1 ?_
  rw [rounds_succ]
  go_wp2_with fail
  go_quiet (fail)
  go_wp2_with fail
  go_end0
  exact ⟨rfl, _, rfl⟩

theorem parse_empty (w : World) : Calls Try.prog 17 #[.string ⟨#[]⟩] w fun e w' => e = .returned (.tuple #[.slice none 0 0, .int .i64 0, .int .i64 0]) ∧ Below w.heap.size w w' := by
  go_enter Try.func17, Try.ntmps17
  go_wp2_with (go_at_call 28; refine (readAll_empty _ _ (by go_simp) (by go_simp) (by go_simp) (by go_simp)).mono ?_; rintro e w' ⟨rfl, n, rfl⟩)
  go_ret3
  exact ⟨rfl, below_drewN ((Below.refl _ _).alloc (Nat.le_refl _) _) _⟩

/-- settle, where what is owed or paid may not be. -/
theorem settle_no (sa : Option Addr) (sl sc : Nat) (a : Option Addr) (len cap : Nat) (zs : List Int) (m : Int) (w : World) (h : Ints w a len zs) (hr : len * 8 ≤ 140737488351232) (hg : (givenE zs m == 0) = false) :
    Calls Try.prog 27 #[.slice sa sl sc, .slice a len cap, .int .i64 m] w fun e w' => e = .returned (.tuple #[.slice none 0 0, .int .i64 0, .int .i64 (givenE zs m), .int .i64 (givenP zs m)]) ∧ w' = w := by
  have hg' : (givenE zs m != 0) = true := by simpa using hg
  have hI := hide h
  clear h
  go_enter Try.func27, Try.ntmps27
  go_wp2_with fail
  refine (checkAmounts_any _ _ _ zs m _ (unhide hI) hr).mono ?_
  rintro e w2 ⟨rfl, hw⟩
  have hw := hw.symm
  subst hw
  generalize hge : givenE zs m = ge at *
  generalize hgp : givenP zs m = gp at *
  have HG := hide (And.intro hge hgp)
  clear hge hgp
  go_wp2_with fail
  exact bodyPost_ret (v := .tuple #[.slice none 0 0, .int .i64 0, .int .i64 ge, .int .i64 gp]) (by simp [results, Try.results27, go_sem]) rfl ⟨by rw [(unhide HG).1, (unhide HG).2], rfl⟩

set_option maxHeartbeats 1000000 in
/-- settle, where it goes through the steps. -/
theorem settle_yes (sa : Option Addr) (sl sc : Nat) (a : Option Addr) (cap : Nat) (zs : List Int) (m : Int) (w : World) (h : Ints w a 8 zs) (hg : givenE zs m = 0) (H : Int) (PL : List Int)
    (hgo : ∀ w3, Purse w3 w.heap.size m (.slice none 0 0) zs (List.replicate 8 0) → Below w.heap.size w w3 → Calls Try.prog 40 #[.pointer (some ⟨w.heap.size, 0, none⟩), .slice sa sl sc] w3 fun e w4 => e = .returned (.tuple #[]) ∧ (∃ vh ow, Purse w4 w.heap.size H vh ow PL) ∧ Below w.heap.size w3 w4) :
    Calls Try.prog 27 #[.slice sa sl sc, .slice a 8 cap, .int .i64 m] w fun e w' => ∃ g : Nat, e = .returned (.tuple #[.slice (some ⟨g, 0, none⟩) 8 8, .int .i64 H, .int .i64 0, .int .i64 0]) ∧ w.heap.size ≤ g ∧ Ints w' (some ⟨g, 0, none⟩) 8 PL ∧ Below w.heap.size w w' := by
  have HG := hide hg
  have hI := hide h
  have HGO := hide hgo
  clear hg h hgo
  go_enter Try.func27, Try.ntmps27
  go_wp2_with fail
  refine (checkAmounts_any _ _ _ zs m _ (unhide hI) (by omega)).mono ?_
  rintro e w2 ⟨rfl, hw⟩
  have hw := hw.symm
  subst hw
  rw [unhide HG]
  generalize hgp : givenP zs m = gp at *
  clear hgp
  go_wp2_with fail
  refine (newPurse_any _ _ zs m _ (unhide hI)).mono ?_
  rintro e w3 ⟨rfl, hp, hb3⟩
  have HP := hide hp
  have HB3 := hide hb3
  clear hp hb3
  go_wp2_with fail
  refine (unhide HGO w3 (unhide HP) (unhide HB3)).mono ?_
  rintro e w4 ⟨rfl, ⟨vh, ow, hp4⟩, hb4⟩
  have HP4 := hide hp4
  have HB4 := hide ((unhide HB3).trans hb4)
  clear hp4 hb4 HP HB3 HGO
  go_wp2_with fail
  refine (paidList_any _ _ _ _ _ _ (unhide HP4)).mono ?_
  rintro e w5 ⟨rfl, hi5, hb5, hl5⟩
  have HI := hide hi5
  have HB5 := hide hb5
  clear hi5 hb5 hl5
  have hh := ((unhide HP4).below (unhide HB5) (unhide HP4).lt).hand_cell
  go_wp2_with fail
  go_quiet (fail)
  go_wp2_with fail
  exact bodyPost_ret (v := .tuple #[.slice (some ⟨w4.heap.size, 0, none⟩) 8 8, .int .i64 H, .int .i64 0, .int .i64 0]) (by simp [results, Try.results27, go_sem]) rfl
    ⟨w4.heap.size, rfl, (unhide HB4).size, unhide HI, below_drewN (below_step (unhide HB4) (unhide HB5)) _⟩

/-- What Share answers of the empty policy. -/
theorem share_empty_no (a : Option Addr) (len cap : Nat) (zs : List Int) (m : Int) (w : World) (h : Ints w a len zs) (hr : len * 8 ≤ 140737488351232) (hg : (givenE zs m == 0) = false) :
    Calls Try.prog 15 #[.string ⟨#[]⟩, .slice a len cap, .int .i64 m] w fun e w' => e = .returned (.tuple #[.slice none 0 0, .int .i64 0, .int .i64 (givenE zs m), .int .i64 (givenP zs m)]) ∧ Below w.heap.size w w' := by
  have HGG := hide hg
  clear hg
  go_enter Try.func15, Try.ntmps15
  go_wp2_with fail
  refine (parse_empty _).mono ?_
  rintro e w1 ⟨rfl, hb1⟩
  have HB := hide hb1
  have hI := hide (h.below hb1)
  clear hb1 h
  go_wp2_with fail
  refine (settle_no _ _ _ _ _ _ zs m _ (unhide hI) hr (unhide HGG)).mono ?_
  rintro e w2 ⟨rfl, hw⟩
  have hw := hw.symm
  subst hw
  generalize hge : givenE zs m = ge at *
  generalize hgp : givenP zs m = gp at *
  have HG := hide (And.intro hge hgp)
  clear hge hgp
  go_wp2_with fail
  exact bodyPost_ret (v := .tuple #[.slice none 0 0, .int .i64 0, .int .i64 ge, .int .i64 gp]) (by simp [results, Try.results15, go_sem]) rfl ⟨by rw [(unhide HG).1, (unhide HG).2], unhide HB⟩

set_option maxHeartbeats 1000000 in
theorem share_empty_yes (a : Option Addr) (cap : Nat) (zs : List Int) (m : Int) (w : World) (h : Ints w a 8 zs) (hg : givenE zs m = 0) :
    Calls Try.prog 15 #[.string ⟨#[]⟩, .slice a 8 cap, .int .i64 m] w fun e w' => ∃ g : Nat, e = .returned (.tuple #[.slice (some ⟨g, 0, none⟩) 8 8, .int .i64 m, .int .i64 0, .int .i64 0]) ∧ w.heap.size ≤ g ∧ Ints w' (some ⟨g, 0, none⟩) 8 (List.replicate 8 0) ∧ Below w.heap.size w w' := by
  have HG := hide hg
  clear hg
  go_enter Try.func15, Try.ntmps15
  go_wp2_with fail
  refine (parse_empty _).mono ?_
  rintro e w1 ⟨rfl, hb1⟩
  have HB := hide hb1
  have hI := hide (h.below hb1)
  clear hb1 h
  go_wp2_with fail
  refine (settle_yes none 0 0 a cap zs m w1 (unhide hI) (unhide HG) m (List.replicate 8 0) (fun w3 hp hb => (goThrough_nil _ _ _ _).mono (fun e w4 hq => by obtain ⟨rfl, rfl⟩ := hq; exact ⟨rfl, ⟨_, _, hp⟩, Below.refl _ _⟩))).mono ?_
  rintro e w5 ⟨g, rfl, hg5, hi5, hb5⟩
  have HI := hide hi5
  have HB5 := hide hb5
  have HG5 := hide hg5
  clear hi5 hb5 hg5
  go_wp2_with fail
  exact bodyPost_ret (v := .tuple #[.slice (some ⟨g, 0, none⟩) 8 8, .int .i64 m, .int .i64 0, .int .i64 0]) (by simp [results, Try.results15, go_sem]) rfl
    ⟨g, rfl, Nat.le_trans (unhide HB).size (unhide HG5), unhide HI, below_step (unhide HB) (unhide HB5)⟩

/-- What a call of Share answers, in memory. -/
def ShareIs (t : ByteArray) (zs : List Int) (m : Int) (L : List Int) (R E P : Int) : Prop :=
  ∀ (a : Option Addr) (len cap : Nat) (w : World), Ints w a len zs → len * 8 ≤ 140737488351232 →
    Calls Try.prog 15 #[.string t, .slice a len cap, .int .i64 m] w fun e w' => ∃ (a' : Option Addr) (n c : Nat), e = .returned (.tuple #[.slice a' n c, .int .i64 R, .int .i64 E, .int .i64 P]) ∧ Ints w' a' n L ∧ (∀ b, a' = some b → w.heap.size ≤ b.block) ∧ Below w.heap.size w w'

theorem ints_setCell {w : World} {a : Option Addr} {n : Nat} {L : List Int} {q : Addr} {v : Value} (h : Ints w a n L) (hq : ∀ b, a = some b → b.block ≠ q.block) : Ints (w.setCell q v) a n L := by
  refine ⟨h.1, fun hp => ?_⟩
  obtain ⟨b, off, e, hc⟩ := h.2 hp
  refine ⟨b, off, e, fun i hi => ?_⟩
  have : (w.setCell q v).heap[b]? = w.heap[b]? := Below.heap_setCell _ _ _ _ (hq _ e)
  rw [World.cell?_of_block (a := ⟨b, off + i, none⟩) this]
  exact hc i hi

theorem share_empty (zs : List Int) (m : Int) : ShareIs ⟨#[]⟩ zs m (if givenE zs m = 0 then List.replicate 8 0 else []) (if givenE zs m = 0 then m else 0) (givenE zs m) (if givenE zs m = 0 then 0 else givenP zs m) := by
  intro a len cap w h hr
  by_cases hg : givenE zs m = 0
  · have hl : zs.length = 8 := by
      unfold givenE at hg
      split at hg
      · assumption
      · simp at hg
    have h8 : len = 8 := by rw [← h.1, hl]
    subst h8
    simp only [hg, if_true]
    refine (share_empty_yes a cap zs m w h hg).mono ?_
    rintro e w' ⟨g, rfl, hge, hi, hb⟩
    exact ⟨_, _, _, rfl, hi, fun b hb => by simp at hb; subst hb; exact hge, hb⟩
  · simp only [hg, if_false]
    refine (share_empty_no a len cap zs m w h hr (by simpa using hg)).mono ?_
    rintro e w' ⟨rfl, hb⟩
    exact ⟨_, _, _, rfl, ⟨rfl, fun h => by omega⟩, fun b hb => by simp at hb, hb⟩

end Go.Proofs.Ytbpolcnjojlkjab

/- split's Share, for every text. -/
namespace Go.Proofs.Ytbpolcnjojlkjab
open Go.ChangeShapes Go.WideShapes Go.ChangeAt Go.RowKit
open Split (Pu Keeps St SOk execM)
set_option linter.unusedVariables false
set_option linter.unusedSimpArgs false

def pu0 (zs : List Int) (m : Int) : Pu := ⟨m, [], zs, List.replicate 8 0⟩
/-- The purse behind the policy. -/
def shrM (t : ByteArray) (zs : List Int) (m : Int) : Pu := execM (rsE t).ss (rsE t).ss.length 0 (pu0 zs m)

theorem given_ok {zs : List Int} {m : Int} (h : givenE zs m = 0) : zs.length = 8 ∧ (∀ i, 0 ≤ zs.getD i 0 ∧ zs.getD i 0 ≤ 1000000000) ∧ 0 ≤ m ∧ m ≤ 1000000000 := by
  unfold givenE at h
  by_cases hl : zs.length = 8
  · rw [if_pos hl] at h
    by_cases hb : badAt zs < 8
    · rw [if_pos hb] at h; simp at h
    · rw [if_neg hb] at h
      by_cases ha : amt m
      · refine ⟨hl, fun i => ?_, (amt_t.1 ha).1, (amt_t.1 ha).2⟩
        by_cases hi : i < zs.length
        · have : ∀ x ∈ zs, (!amt x) = false := by
            have hfi : List.findIdx (fun z => !amt z) zs = zs.length := by
              have h1 := List.findIdx_le_length (p := fun z => !amt z) (xs := zs)
              unfold badAt at hb
              omega
            rw [List.findIdx_eq_length] at hfi
            exact hfi
          have hx := this _ (Split.getD_mem hi)
          simp at hx
          exact amt_t.1 hx
        · rw [List.getD_eq_getElem?_getD, List.getElem?_eq_none (by omega)]
          simp
      · rw [if_neg ha] at h; simp at h
  · rw [if_neg hl] at h; simp at h

theorem keeps0 {zs : List Int} {m : Int} (h : givenE zs m = 0) : Keeps m zs (pu0 zs m) := by
  obtain ⟨h1, h2, h3, h4⟩ := given_ok h
  refine ⟨h1, by simp [pu0], h3, by simp [pu0], fun i => (h2 i).1, fun i => ?_, ?_, h4, fun i => ?_, fun i => (h2 i).2⟩
  · simp only [pu0, List.getD_eq_getElem?_getD, List.getElem?_replicate]
    split <;> simp
  · simp [pu0]
  · simp only [pu0, List.getD_eq_getElem?_getD, List.getElem?_replicate]
    split <;> simp

def shE (t : ByteArray) (zs : List Int) (m : Int) : Int := if checkE t = 0 then givenE zs m else checkE t
def shP (t : ByteArray) (zs : List Int) (m : Int) : Int := if checkE t = 0 then (if givenE zs m = 0 then 0 else givenP zs m) else checkP t
def shL (t : ByteArray) (zs : List Int) (m : Int) : List Int := if shE t zs m = 0 then (shrM t zs m).paid else []
def shR (t : ByteArray) (zs : List Int) (m : Int) : Int := if shE t zs m = 0 then (shrM t zs m).hand else 0

/-- What steps pay, in plain words: settle's answer. -/
def stL (ss : List St) (zs : List Int) (m : Int) : List Int := if givenE zs m = 0 then (execM ss ss.length 0 (pu0 zs m)).paid else []
def stR (ss : List St) (zs : List Int) (m : Int) : Int := if givenE zs m = 0 then (execM ss ss.length 0 (pu0 zs m)).hand else 0
def stP (zs : List Int) (m : Int) : Int := if givenE zs m = 0 then 0 else givenP zs m

set_option maxHeartbeats 4000000 in
theorem settle_any (ss : List St) (base : Nat) (sa : Option Addr) (scap : Nat) (a : Option Addr) (len cap : Nat) (zs : List Int) (m : Int) (w : World) (h : Ints w a len zs) (hr : len * 8 ≤ 140737488351232)
    (hown : w.ownsRow base 63 12 (.slice sa ss.length scap) ss.length (flat ss)) (hok : ∀ s ∈ ss, SOk s) (hl : ss.length ≤ 200) :
    Calls Try.prog 27 #[.slice sa ss.length scap, .slice a len cap, .int .i64 m] w fun e w' => ∃ (a' : Option Addr) (n c : Nat), e = .returned (.tuple #[.slice a' n c, .int .i64 (stR ss zs m), .int .i64 (givenE zs m), .int .i64 (stP zs m)]) ∧ Ints w' a' n (stL ss zs m) ∧ (∀ b, a' = some b → w.heap.size ≤ b.block) ∧ Below w.heap.size w w' := by
  by_cases hg : givenE zs m = 0
  · have e2 : stP zs m = 0 := by simp [stP, hg]
    have e3 : stL ss zs m = (execM ss ss.length 0 (pu0 zs m)).paid := by simp [stL, hg]
    have e4 : stR ss zs m = (execM ss ss.length 0 (pu0 zs m)).hand := by simp [stR, hg]
    rw [e2, e3, e4, hg]
    obtain ⟨hz8, _, _, _⟩ := given_ok hg
    have h8 : len = 8 := by rw [← h.1, hz8]
    subst h8
    refine (settle_yes sa ss.length scap a cap zs m w h hg (execM ss ss.length 0 (pu0 zs m)).hand (execM ss ss.length 0 (pu0 zs m)).paid (fun w3 hp hb => ?_)).mono ?_
    · have hgo : Calls Try.prog 40 #[.pointer (some ⟨w.heap.size, 0, none⟩), .slice sa ss.length scap] w3 fun e w' => e = .returned (.tuple #[]) ∧ PA w' w.heap.size (execM ss ss.length 0 (pu0 zs m)) ∧ Below w.heap.size w3 w' := by
        by_cases hz : 0 < ss.length
        · obtain ⟨sa', scap', he, hsc, hsa⟩ := own_slice hown
          simp only [Value.slice.injEq, true_and] at he
          obtain ⟨rfl, rfl⟩ := he
          obtain ⟨g, rfl⟩ := hsa hz
          have hgl := (hown.lt g rfl).2
          have hoS : w3.ownsRow base 63 12 (.slice (some ⟨g, 0, none⟩) ss.length scap) ss.length (flat ss) := by
            refine ⟨hown.1, ?_⟩
            rcases hown.2 with ⟨q, _⟩ | ⟨g', cap', cur, q, q1, q2, q3⟩
            · simp at q
            · simp only [Value.slice.injEq, Option.some.injEq, Addr.mk.injEq, and_true, true_and] at q
              obtain ⟨rfl, rfl⟩ := q
              exact .inr ⟨g, scap, cur, rfl, q1, by rw [hb.block g hgl]; exact q2, q3⟩
          exact goThrough_any w.heap.size (pu0 zs m) m zs ss base g scap w3 ⟨_, hp, World.ownsRow_nil _ _ _ _⟩ (keeps0 hg) rfl hoS hgl hok hl
        · have hz0 : ss.length = 0 := by omega
          have hs0 : ss = [] := List.eq_nil_of_length_eq_zero hz0
          subst hs0
          refine (goThrough_nil _ _ _ _).mono ?_
          rintro e w' ⟨rfl, hw⟩
          rw [hw]
          exact ⟨rfl, ⟨_, hp, World.ownsRow_nil _ _ _ _⟩, Below.refl _ _⟩
      refine hgo.mono ?_
      rintro e w4 ⟨rfl, ⟨vh, hP4, _⟩, hb4⟩
      exact ⟨rfl, ⟨_, _, hP4⟩, hb4⟩
    · rintro e w' ⟨g, rfl, hge, hi, hb⟩
      exact ⟨_, _, _, rfl, hi, fun b hb => by simp at hb; subst hb; exact hge, hb⟩
  · have e2 : stP zs m = givenP zs m := by simp [stP, hg]
    have e3 : stL ss zs m = [] := by simp [stL, hg]
    have e4 : stR ss zs m = 0 := by simp [stR, hg]
    rw [e2, e3, e4]
    refine (settle_no sa ss.length scap a len cap zs m w h hr (by simpa using hg)).mono ?_
    rintro e w' ⟨rfl, rfl⟩
    exact ⟨_, _, _, rfl, ⟨rfl, fun h => by omega⟩, fun b hb => by simp at hb, Below.refl _ _⟩

set_option maxHeartbeats 4000000 in
theorem share_any (t : ByteArray) (zs : List Int) (m : Int) (ht : t.size ≤ 1000000000000000) : ShareIs t zs m (shL t zs m) (shR t zs m) (shE t zs m) (shP t zs m) := by
  intro a len cap w h hr
  have hpc := par_check t
  have hparse := parse_any t w ht
  unfold ParsePost at hparse
  rw [hpc.1, hpc.2] at hparse
  have HPS := hide hparse
  clear hparse hpc
  by_cases hc : checkE t = 0
  · have e1 : shE t zs m = givenE zs m := by simp [shE, hc]
    have e2 : shP t zs m = stP zs m := by simp [shP, hc, stP]
    have e3 : shL t zs m = stL (rsE t).ss zs m := by simp only [shL, e1, stL]; rfl
    have e4 : shR t zs m = stR (rsE t).ss zs m := by simp only [shR, e1, stR]; rfl
    rw [e1, e2, e3, e4]
    clear e1 e2 e3 e4
    have HPOL := hide (policy_code t hc)
    rw [hc] at HPS
    have HI := hide h
    clear h hc
    go_enter Try.func15, Try.ntmps15
    go_wp2_with fail
    refine (unhide HPS).mono ?_
    rintro e w1 ⟨vs, rfl, hown, _, hb1⟩
    have hown := hown (by first | rfl | trivial)
    obtain ⟨sa, scap, rfl, hsc, hsa⟩ := own_slice hown
    have HOWN := hide hown
    have HB1 := hide hb1
    have hI1 := hide ((unhide HI).below hb1)
    have hsl := (unhide HPOL).2.2.2.1
    clear hown hb1 HPS hsa
    generalize hcp : checkP t = cp
    clear hcp
    go_wp2_with fail
    refine (settle_any (rsE t).ss _ _ _ _ _ _ zs m _ (unhide hI1) hr (unhide HOWN) (unhide HPOL).2.2.1 (by omega)).mono ?_
    rintro e w2 ⟨a', n, c, rfl, hi2, hf2, hb2⟩
    have HI2 := hide hi2
    have HF2 := hide hf2
    have HB2 := hide hb2
    clear hi2 hf2 hb2
    generalize hge : givenE zs m = ge at *
    generalize hgp : stP zs m = gp at *
    generalize hgr : stR (rsE t).ss zs m = gr at *
    have HG := hide (And.intro hge (And.intro hgp hgr))
    clear hge hgp hgr
    go_wp2_with fail
    refine bodyPost_ret (v := .tuple #[.slice a' n c, .int .i64 gr, .int .i64 ge, .int .i64 gp]) (by simp [results, Try.results15, go_sem]) rfl ?_
    exact ⟨a', n, c, by rw [(unhide HG).1, (unhide HG).2.1, (unhide HG).2.2], unhide HI2, fun b hb => Nat.le_trans (unhide HB1).size (unhide HF2 b hb), below_step (unhide HB1) (unhide HB2)⟩
  · have e1 : shE t zs m = checkE t := by simp [shE, hc]
    have e2 : shP t zs m = checkP t := by simp [shP, hc]
    have e3 : shL t zs m = [] := by simp [shL, e1, hc]
    have e4 : shR t zs m = 0 := by simp [shR, e1, hc]
    rw [e1, e2, e3, e4]
    clear e1 e2 e3 e4
    have hcb : (checkE t != 0) = true := by simpa using hc
    have HC := hide hc
    clear hc
    go_enter Try.func15, Try.ntmps15
    go_wp2_with fail
    refine (unhide HPS).mono ?_
    rintro e w1 ⟨vs, rfl, _, hvs, hb1⟩
    have hvs := hvs (unhide HC)
    subst hvs
    have HB1 := hide hb1
    clear hb1 HPS
    generalize hge : checkE t = ge at *
    generalize hgp : checkP t = gp at *
    have HG := hide (And.intro hge hgp)
    clear hge hgp
    go_wp2_with fail
    refine bodyPost_ret (v := .tuple #[.slice none 0 0, .int .i64 0, .int .i64 ge, .int .i64 gp]) (by simp [results, Try.results15, go_sem]) rfl ?_
    exact ⟨none, 0, 0, by rw [(unhide HG).1, (unhide HG).2], ⟨rfl, fun h => by omega⟩, fun b hb => by simp at hb, unhide HB1⟩
end Go.Proofs.Ytbpolcnjojlkjab

/- Plain: a policy makes and loses nothing. -/
namespace Go.Proofs.Ytbpolcnjojlkjab
open Split (Pu Keeps St SOk execM)
set_option linter.unusedVariables false
set_option linter.unusedSimpArgs false

theorem exec_keeps {M : Int} {o0 : List Int} {ss : List St} (hs : ∀ s ∈ ss, SOk s) : ∀ (f pc : Nat) (p : Pu), Keeps M o0 p → Keeps M o0 (execM ss f pc p)
  | 0, pc, p, h => h
  | f + 1, pc, p, h => by
    by_cases hlt : pc < ss.length
    · simp only [execM, List.getElem?_eq_getElem hlt]
      exact exec_keeps hs f _ _ (Split.do_keeps h (hs _ (List.getElem_mem hlt)))
    · simp only [execM, List.getElem?_eq_none (show ss.length ≤ pc by omega)]
      exact h

theorem shr_keeps {t : ByteArray} {zs : List Int} {m : Int} (hc : checkE t = 0) (hg : givenE zs m = 0) : Keeps m zs (shrM t zs m) ∧ (shrM t zs m).held = [] := by
  obtain ⟨h1, h2, h3, h4, h5, h6⟩ := policy_code t hc
  refine ⟨exec_keeps h3 _ _ _ (keeps0 hg), ?_⟩
  have e : (rsE t).ss = codeJ t 0 := h2
  unfold shrM
  rw [e, exec_sem t h5, sem_held t _ 0 _ (Nat.zero_le _) h5]
  rfl
end Go.Proofs.Ytbpolcnjojlkjab
