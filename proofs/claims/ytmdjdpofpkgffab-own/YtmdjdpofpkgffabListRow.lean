/- ListRow: the lists that the program answers are the caller's: nothing keeps them from being written. (The contracts of listOf, settle, Share, Owed, Pay, with that word more.) -/
import Derived.Test.YtmdjdpofpkgffabBookPay
namespace Go.Proofs.Ytmdjdpofpkgffab
open Go.ChangeShapes Go.WideShapes Go.ChangeAt Go.RowKit
open Split
set_option linter.unusedVariables false
set_option linter.unusedSimpArgs false

def IntsF (w : World) (a : Option Addr) (len : Nat) (zs : List Int) : Prop := Ints w a len zs ∧ ∀ p, a = some p → ∀ i, w.frozen? ⟨p.block, i, none⟩ = false
theorem Ints.block_lt {w : World} {a : Option Addr} {n : Nat} {zs : List Int} (h : Ints w a n zs) (hn : 0 < n) {p : Addr} (hp : a = some p) : p.block < w.heap.size := by
  obtain ⟨b, off, e, hc⟩ := h.2 hn
  have := hc 0 hn
  rw [e] at hp
  simp only [Option.some.injEq] at hp
  subst hp
  by_cases hx : b < w.heap.size
  · exact hx
  · simp [World.cell?, hx] at this
theorem Fr.intsF {S : Nat → Prop} {w w' : World} (h : Fr S w w') {a : Option Addr} {n : Nat} {zs : List Int} (hi : IntsF w a (n + 1) zs) (hs : ∀ p, a = some p → ¬ S p.block) : IntsF w' a (n + 1) zs :=
  ⟨h.ints hi.1 hs, fun p hp i => by
    rw [World.frozen?_of_block (w := w) (a := ⟨p.block, i, none⟩) (h.block p.block (hi.1.block_lt (Nat.succ_pos _) hp) (hs p hp))]
    exact hi.2 p hp i⟩

def ShareRow (t : ByteArray) (zs : List Int) (m : Int) (L : List Int) (R E P : Int) : Prop :=
  ∀ (a : Option Addr) (len cap : Nat) (w : World), Ints w a len zs → len * 8 ≤ 140737488351232 →
    Calls Try.prog 21 #[.string t, .slice a len cap, .int .i64 m] w fun e w' => ∃ (a' : Option Addr) (n c : Nat), e = .returned (.tuple #[.slice a' n c, .int .i64 R, .int .i64 E, .int .i64 P]) ∧ IntsF w' a' n L ∧ (∀ b, a' = some b → w.heap.size ≤ b.block) ∧ Below w.heap.size w w'

set_option maxHeartbeats 1000000 in
/-- listOf: a list of its own with the eight numbers. -/
theorem listOf_row (f0 f1 f2 f3 f4 f5 f6 f7 : Int) (w : World) :
    Calls Try.prog 53 #[.agg #[.int .i64 f0, .int .i64 f1, .int .i64 f2, .int .i64 f3, .int .i64 f4, .int .i64 f5, .int .i64 f6, .int .i64 f7]] w fun e w' => ∃ g : Nat, e = .returned (.slice (some ⟨g, 0, none⟩) 8 8) ∧ w.heap.size ≤ g ∧ g < w'.heap.size ∧ IntsF w' (some ⟨g, 0, none⟩) 8 [f0, f1, f2, f3, f4, f5, f6, f7] ∧ Below w.heap.size w w' := by
  obtain ⟨i0, hi, hz0, hz1, hz2⟩ := info_parts infoInt
  have HROW : Hid (∀ i, i < 8 → (w.alloc (.cells #[.int .i64 f0, .int .i64 f1, .int .i64 f2, .int .i64 f3, .int .i64 f4, .int .i64 f5, .int .i64 f6, .int .i64 f7] 85)).cell? ⟨w.heap.size, i, none⟩ = some (.int .i64 ([f0, f1, f2, f3, f4, f5, f6, f7].getD i 0))) := row_ints (w := w.alloc (.cells #[.int .i64 f0, .int .i64 f1, .int .i64 f2, .int .i64 f3, .int .i64 f4, .int .i64 f5, .int .i64 f6, .int .i64 f7] 85)) f0 f1 f2 f3 f4 f5 f6 f7 (heap_alloc_new _ _)
  go_enter Try.func53, Try.ntmps53
  obtain ⟨wa, hwa⟩ : ∃ wa, wa = w.alloc (.cells #[.int .i64 f0, .int .i64 f1, .int .i64 f2, .int .i64 f3, .int .i64 f4, .int .i64 f5, .int .i64 f6, .int .i64 f7] 85) := ⟨_, rfl⟩
  have hza : wa.heap.size = w.heap.size + 1 := by rw [hwa]; simp
  have hba : Below w.heap.size w wa := by rw [hwa]; exact (Below.refl _ _).alloc (Nat.le_refl _) _
  rw [← hwa] at HROW
  have HWA := hide hwa
  have HBA := hide hba
  have HZA := hide hza
  clear hwa hba hza
  go_wp2_with (at_make; refine wpList_make_full _ rfl _ _ 22 rfl (w.heap.size + 1) 3 i0 (.int .i64 0) 1 Try.underlying22 hi hz0 hz1 .i64 .i64 _ _ 8 rfl rfl rfl rfl (by rw [hz2]; omega) (by unfold maxLen; omega) (by simp) ?_; intro w1 hown hgrow)
  have hsz : (w.alloc (.cells #[.int .i64 f0, .int .i64 f1, .int .i64 f2, .int .i64 f3, .int .i64 f4, .int .i64 f5, .int .i64 f6, .int .i64 f7] 85)).heap.size = w.heap.size + 1 := by simp
  rw [hsz] at hown
  rw [← unhide HWA] at hgrow
  have hw1 : w1.ownsRow (w.heap.size + 1) 3 1 (.slice (some ⟨w.heap.size + 1, 0, none⟩) 8 8) 8 ((fillZ [f0, f1, f2, f3, f4, f5, f6, f7] 8 0).map (Value.int .i64)) := by
    rw [fillZ_zero]
    simpa [toList_madeCells_one, Value.cells] using hown
  have hb1 : Below (w.heap.size + 1) wa w1 := (Below.refl _ _).grown hgrow (by rw [unhide HZA]; exact Nat.le_refl _) (by simp)
  clear hown hgrow hsz
  have HW1 := hide hw1
  have HB1 := hide hb1
  clear hw1 hb1
  generalize hfs : [f0, f1, f2, f3, f4, f5, f6, f7] = fs at *
  have hfl : fs.length = 8 := by rw [← hfs]; rfl
  have HFL := hide hfl
  have HFS := hide hfs
  clear hfs hfl
  go_loopw [4] (fun i wr => ∃ k : Nat, k ≤ 8 ∧ i = .int .i64 k ∧ Hid (wr.ownsRow (w.heap.size + 1) 3 1 (.slice (some ⟨w.heap.size + 1, 0, none⟩) 8 8) 8 ((fillZ fs 8 k).map (Value.int .i64))) ∧ Hid (Below (w.heap.size + 1) wa wr))
    (fun i _ => 8 - (intOf i).toNat)
  case atStart => exact ⟨0, Nat.zero_le _, rfl, HW1, HB1⟩
  case round =>
    obtain ⟨k, hk, rfl, hown, hbel⟩ := hrel
    clear HWA HW1 HB1
    by_cases hlt : k < 8
    · have hck' : wr.cell? ⟨w.heap.size, k, none⟩ = some (.int .i64 (fs.getD k 0)) := ((unhide hbel).cell (p := ⟨w.heap.size, k, none⟩) (Nat.lt_succ_self _)).trans (unhide HROW k hlt)
      obtain ⟨q, hq⟩ : ∃ q, q = fs.getD k 0 := ⟨_, rfl⟩
      rw [← hq] at hck'
      have HQ := hide hq
      clear hq
      have hfr := (unhide hown).frozenAt k
      have hold : ∃ u, wr.cell? ⟨w.heap.size + 1, k, none⟩ = some u := by
        rw [(unhide hown).cellAt k (by omega)]
        exact ⟨_, List.getElem?_eq_getElem (by simp [fillZ]; omega)⟩
      obtain ⟨u, hold⟩ := hold
      clear hi hz0 hz1 hz2
      go_wp2
      go_roundw
      case rel =>
        refine ⟨k + 1, by omega, by go_num, ?_, ?_⟩
        · have := ((unhide hown).stored k (.int .i64 q)).1
          rw [unhide HQ, fillZ_set _ _ _ hlt] at this
          rw [unhide HQ]
          exact this
        · exact (unhide hbel).setCell (Nat.le_refl _) _
      case measure => simp [intOf]; omega
    · have hk' : k = 8 := by omega
      subst hk'
      go_wp2
      go_ret
      have hown := unhide hown
      rw [fillZ_all _ _ (unhide HFL)] at hown
      refine ⟨w.heap.size + 1, rfl, by omega, ?_, ⟨by rw [unhide HFS]; exact ints_of_own hown, fun p hp i => by simp at hp; subst hp; exact hown.frozenAt i⟩, (unhide HBA).trans ((unhide hbel).mono (by omega))⟩
      rcases hown.2 with ⟨h', _⟩ | ⟨g', cap', cur, h', _, hg, _⟩
      · simp at h'
      · simp only [Value.slice.injEq, Option.some.injEq, Addr.mk.injEq, and_true, true_and] at h'
        obtain ⟨rfl, rfl⟩ := h'
        exact cell_lt hg

set_option maxHeartbeats 1000000 in
/-- settle, where it goes through the steps. -/
theorem settle_yes_row (sa : Option Addr) (sl sc : Nat) (a : Option Addr) (cap : Nat) (zs : List Int) (m : Int) (w : World) (h : Ints w a 8 zs) (hg : givenE zs m = 0) (H : Int) (PL : List Int)
    (hgo : ∀ w3, Purse w3 w.heap.size m (.slice none 0 0) zs (List.replicate 8 0) → Below w.heap.size w w3 → Calls Try.prog 74 #[.pointer (some ⟨w.heap.size, 0, none⟩), .slice sa sl sc] w3 fun e w4 => e = .returned (.tuple #[]) ∧ (∃ vh ow, Purse w4 w.heap.size H vh ow PL) ∧ Below w.heap.size w3 w4) :
    Calls Try.prog 47 #[.slice sa sl sc, .slice a 8 cap, .int .i64 m] w fun e w' => ∃ g : Nat, e = .returned (.tuple #[.slice (some ⟨g, 0, none⟩) 8 8, .int .i64 H, .int .i64 0, .int .i64 0]) ∧ w.heap.size ≤ g ∧ IntsF w' (some ⟨g, 0, none⟩) 8 PL ∧ Below w.heap.size w w' := by
  have HG := hide hg
  have hI := hide h
  have HGO := hide hgo
  clear hg h hgo
  go_enter Try.func47, Try.ntmps47
  go_wp2_with fail
  refine (checkAmounts_any _ _ _ zs m _ (unhide hI) (by omega)).mono ?_
  rintro e w2 ⟨rfl, hw⟩
  have hw := hw.symm
  subst hw
  rw [unhide HG]
  generalize hgp : givenP zs m = gp at *
  clear hgp
  go_wp2_with fail
  refine (newPurse_any _ _ zs m _ (unhide hI)).mono ?_
  rintro e w3 ⟨rfl, hp, hb3⟩
  have HP := hide hp
  have HB3 := hide hb3
  clear hp hb3
  go_wp2_with fail
  refine (unhide HGO w3 (unhide HP) (unhide HB3)).mono ?_
  rintro e w4 ⟨rfl, ⟨vh, ow, hp4⟩, hb4⟩
  have HP4 := hide hp4
  have HB4 := hide ((unhide HB3).trans hb4)
  clear hp4 hb4 HP HB3 HGO
  obtain ⟨f0, f1, f2, f3, f4, f5, f6, f7, rfl⟩ := list8 (unhide HP4).lp
  have c0 : w4.cell? ⟨w.heap.size, 10, none⟩ = some (.int .i64 f0) := (unhide HP4).paid_cell 0 (by omega)
  have c1 : w4.cell? ⟨w.heap.size, 11, none⟩ = some (.int .i64 f1) := (unhide HP4).paid_cell 1 (by omega)
  have c2 : w4.cell? ⟨w.heap.size, 12, none⟩ = some (.int .i64 f2) := (unhide HP4).paid_cell 2 (by omega)
  have c3 : w4.cell? ⟨w.heap.size, 13, none⟩ = some (.int .i64 f3) := (unhide HP4).paid_cell 3 (by omega)
  have c4 : w4.cell? ⟨w.heap.size, 14, none⟩ = some (.int .i64 f4) := (unhide HP4).paid_cell 4 (by omega)
  have c5 : w4.cell? ⟨w.heap.size, 15, none⟩ = some (.int .i64 f5) := (unhide HP4).paid_cell 5 (by omega)
  have c6 : w4.cell? ⟨w.heap.size, 16, none⟩ = some (.int .i64 f6) := (unhide HP4).paid_cell 6 (by omega)
  have c7 : w4.cell? ⟨w.heap.size, 17, none⟩ = some (.int .i64 f7) := (unhide HP4).paid_cell 7 (by omega)
  go_wp2_with fail
  refine (listOf_row f0 f1 f2 f3 f4 f5 f6 f7 _).mono ?_
  rintro e w5 ⟨g5, rfl, hg5, hl5, hi5, hb5⟩
  have HI := hide hi5
  have HB5 := hide hb5
  have HG5 := hide hg5
  clear hi5 hb5 hl5 hg5 c0 c1 c2 c3 c4 c5 c6 c7
  have hh := ((unhide HP4).below (unhide HB5) (unhide HP4).lt).hand_cell
  go_wp2_with fail
  go_quiet (fail)
  go_wp2_with fail
  exact bodyPost_ret (v := .tuple #[.slice (some ⟨g5, 0, none⟩) 8 8, .int .i64 H, .int .i64 0, .int .i64 0]) (by simp [results, Try.results47, go_sem]) rfl
    ⟨g5, rfl, Nat.le_trans (unhide HB4).size (unhide HG5), unhide HI, below_drewN (below_step (unhide HB4) (unhide HB5)) _⟩

set_option maxHeartbeats 4000000 in
theorem settle_row (ss : List St) (base : Nat) (sa : Option Addr) (scap : Nat) (a : Option Addr) (len cap : Nat) (zs : List Int) (m : Int) (w : World) (h : Ints w a len zs) (hr : len * 8 ≤ 140737488351232)
    (hown : w.ownsRow base 110 12 (.slice sa ss.length scap) ss.length (flat ss)) (hok : ∀ s ∈ ss, SOk s) (hl : ss.length ≤ 200) :
    Calls Try.prog 47 #[.slice sa ss.length scap, .slice a len cap, .int .i64 m] w fun e w' => ∃ (a' : Option Addr) (n c : Nat), e = .returned (.tuple #[.slice a' n c, .int .i64 (stR ss zs m), .int .i64 (givenE zs m), .int .i64 (stP zs m)]) ∧ IntsF w' a' n (stL ss zs m) ∧ (∀ b, a' = some b → w.heap.size ≤ b.block) ∧ Below w.heap.size w w' := by
  by_cases hg : givenE zs m = 0
  · have e2 : stP zs m = 0 := by simp [stP, hg]
    have e3 : stL ss zs m = (execM ss ss.length 0 (pu0 zs m)).paid := by simp [stL, hg]
    have e4 : stR ss zs m = (execM ss ss.length 0 (pu0 zs m)).hand := by simp [stR, hg]
    rw [e2, e3, e4, hg]
    obtain ⟨hz8, _, _, _⟩ := given_ok hg
    have h8 : len = 8 := by rw [← h.1, hz8]
    subst h8
    refine (settle_yes_row sa ss.length scap a cap zs m w h hg (execM ss ss.length 0 (pu0 zs m)).hand (execM ss ss.length 0 (pu0 zs m)).paid (fun w3 hp hb => ?_)).mono ?_
    · have hgo : Calls Try.prog 74 #[.pointer (some ⟨w.heap.size, 0, none⟩), .slice sa ss.length scap] w3 fun e w' => e = .returned (.tuple #[]) ∧ PA w' w.heap.size (execM ss ss.length 0 (pu0 zs m)) ∧ Below w.heap.size w3 w' := by
        by_cases hz : 0 < ss.length
        · obtain ⟨sa', scap', he, hsc, hsa⟩ := own_slice hown
          simp only [Value.slice.injEq, true_and] at he
          obtain ⟨rfl, rfl⟩ := he
          obtain ⟨g, rfl⟩ := hsa hz
          have hgl := (hown.lt g rfl).2
          have hoS : w3.ownsRow base 110 12 (.slice (some ⟨g, 0, none⟩) ss.length scap) ss.length (flat ss) := by
            refine ⟨hown.1, ?_⟩
            rcases hown.2 with ⟨q, _⟩ | ⟨g', cap', cur, q, q1, q2, q3⟩
            · simp at q
            · simp only [Value.slice.injEq, Option.some.injEq, Addr.mk.injEq, and_true, true_and] at q
              obtain ⟨rfl, rfl⟩ := q
              exact .inr ⟨g, scap, cur, rfl, q1, by rw [hb.block g hgl]; exact q2, q3⟩
          exact goThrough_any w.heap.size (pu0 zs m) m zs ss base g scap w3 ⟨_, hp, World.ownsRow_nil _ _ _ _⟩ (keeps0 hg) rfl hoS hgl hok hl
        · have hz0 : ss.length = 0 := by omega
          have hs0 : ss = [] := List.eq_nil_of_length_eq_zero hz0
          subst hs0
          refine (goThrough_nil _ _ _ _).mono ?_
          rintro e w' ⟨rfl, hw⟩
          rw [hw]
          exact ⟨rfl, ⟨_, hp, World.ownsRow_nil _ _ _ _⟩, Below.refl _ _⟩
      refine hgo.mono ?_
      rintro e w4 ⟨rfl, ⟨vh, hP4, _⟩, hb4⟩
      exact ⟨rfl, ⟨_, _, hP4⟩, hb4⟩
    · rintro e w' ⟨g, rfl, hge, hi, hb⟩
      exact ⟨_, _, _, rfl, hi, fun b hb => by simp at hb; subst hb; exact hge, hb⟩
  · have e2 : stP zs m = givenP zs m := by simp [stP, hg]
    have e3 : stL ss zs m = [] := by simp [stL, hg]
    have e4 : stR ss zs m = 0 := by simp [stR, hg]
    rw [e2, e3, e4]
    refine (settle_no sa ss.length scap a len cap zs m w h hr (by simpa using hg)).mono ?_
    rintro e w' ⟨rfl, rfl⟩
    exact ⟨_, _, _, rfl, ⟨⟨rfl, fun h => by omega⟩, fun p hp => by simp at hp⟩, fun b hb => by simp at hb, Below.refl _ _⟩

set_option maxHeartbeats 4000000 in
theorem share_row (t : ByteArray) (zs : List Int) (m : Int) (ht : t.size ≤ 1000000000000000) : ShareRow t zs m (shL t zs m) (shR t zs m) (shE t zs m) (shP t zs m) := by
  intro a len cap w h hr
  have hpc := par_check t
  have hparse := parse_any t w ht
  unfold ParsePost at hparse
  rw [hpc.1, hpc.2] at hparse
  have HPS := hide hparse
  clear hparse hpc
  by_cases hc : checkE t = 0
  · have e1 : shE t zs m = givenE zs m := by simp [shE, hc]
    have e2 : shP t zs m = stP zs m := by simp [shP, hc, stP]
    have e3 : shL t zs m = stL (rsE t).ss zs m := by simp only [shL, e1, stL]; rfl
    have e4 : shR t zs m = stR (rsE t).ss zs m := by simp only [shR, e1, stR]; rfl
    rw [e1, e2, e3, e4]
    clear e1 e2 e3 e4
    have HPOL := hide (policy_code t hc)
    rw [hc] at HPS
    have HI := hide h
    clear h hc
    go_enter Try.func21, Try.ntmps21
    go_wp2_with fail
    refine (unhide HPS).mono ?_
    rintro e w1 ⟨vs, rfl, hown, _, hb1⟩
    have hown := hown (by first | rfl | trivial)
    obtain ⟨sa, scap, rfl, hsc, hsa⟩ := own_slice hown
    have HOWN := hide hown
    have HB1 := hide hb1
    have hI1 := hide ((unhide HI).below hb1)
    have hsl := (unhide HPOL).2.2.2.1
    clear hown hb1 HPS hsa
    generalize hcp : checkP t = cp
    clear hcp
    go_wp2_with fail
    refine (settle_row (rsE t).ss _ _ _ _ _ _ zs m _ (unhide hI1) hr (unhide HOWN) (unhide HPOL).2.2.1 (by omega)).mono ?_
    rintro e w2 ⟨a', n, c, rfl, hi2, hf2, hb2⟩
    have HI2 := hide hi2
    have HF2 := hide hf2
    have HB2 := hide hb2
    clear hi2 hf2 hb2
    generalize hge : givenE zs m = ge at *
    generalize hgp : stP zs m = gp at *
    generalize hgr : stR (rsE t).ss zs m = gr at *
    have HG := hide (And.intro hge (And.intro hgp hgr))
    clear hge hgp hgr
    go_wp2_with fail
    refine bodyPost_ret (v := .tuple #[.slice a' n c, .int .i64 gr, .int .i64 ge, .int .i64 gp]) (by simp [results, Try.results21, go_sem]) rfl ?_
    exact ⟨a', n, c, by rw [(unhide HG).1, (unhide HG).2.1, (unhide HG).2.2], unhide HI2, fun b hb => Nat.le_trans (unhide HB1).size (unhide HF2 b hb), below_step (unhide HB1) (unhide HB2)⟩
  · have e1 : shE t zs m = checkE t := by simp [shE, hc]
    have e2 : shP t zs m = checkP t := by simp [shP, hc]
    have e3 : shL t zs m = [] := by simp [shL, e1, hc]
    have e4 : shR t zs m = 0 := by simp [shR, e1, hc]
    rw [e1, e2, e3, e4]
    clear e1 e2 e3 e4
    have hcb : (checkE t != 0) = true := by simpa using hc
    have HC := hide hc
    clear hc
    go_enter Try.func21, Try.ntmps21
    go_wp2_with fail
    refine (unhide HPS).mono ?_
    rintro e w1 ⟨vs, rfl, _, hvs, hb1⟩
    have hvs := hvs (unhide HC)
    subst hvs
    have HB1 := hide hb1
    clear hb1 HPS
    generalize hge : checkE t = ge at *
    generalize hgp : checkP t = gp at *
    have HG := hide (And.intro hge hgp)
    clear hge hgp
    go_wp2_with fail
    refine bodyPost_ret (v := .tuple #[.slice none 0 0, .int .i64 0, .int .i64 ge, .int .i64 gp]) (by simp [results, Try.results21, go_sem]) rfl ?_
    exact ⟨none, 0, 0, by rw [(unhide HG).1, (unhide HG).2], ⟨⟨rfl, fun h => by omega⟩, fun p hp => by simp at hp⟩, fun b hb => by simp at hb, unhide HB1⟩

set_option maxHeartbeats 1000000 in
theorem sowed_row (P : Nat) (b : Bk) (w : World) (h : SBk w P b) (hk : b.Ok) : Calls Try.prog 27 #[.pointer (some ⟨P, 0, none⟩)] w fun e w' => ∃ g : Nat, e = .returned (.slice (some ⟨g, 0, none⟩) 8 8) ∧ w.heap.size ≤ g ∧ g < w'.heap.size ∧ IntsF w' (some ⟨g, 0, none⟩) 8 b.now.owed ∧ Below w.heap.size w w' := by
  obtain ⟨f0, f1, f2, f3, f4, f5, f6, f7, e, c0, c1, c2, c3, c4, c5, c6, c7⟩ := SRow.eight h hk.now.l8
  rw [e]
  clear e h
  go_enter Try.func27, Try.ntmps27
  go_wp2_with fail
  refine (listOf_row f0 f1 f2 f3 f4 f5 f6 f7 _).mono ?_
  rintro e w1 ⟨g, rfl, h1, h2, h3, h4⟩
  have H := hide (And.intro h1 (And.intro h2 (And.intro h3 h4)))
  clear h1 h2 h3 h4
  go_wp2_with fail
  go_ret
  exact ⟨g, rfl, unhide H⟩

set_option maxHeartbeats 2000000 in
theorem spay_row (P : Nat) (b : Bk) (m : Int) (w : World) (h : SBk w P b) (hk : b.Ok) : Calls Try.prog 29 #[.pointer (some ⟨P, 0, none⟩), .int .i64 m] w fun e w' => ∃ (a : Option Addr) (n c : Nat), e = .returned (.tuple #[.slice a n c, .int .i64 (payR b.now m), .int .i64 (payE b.now m)]) ∧ IntsF w' a n (payL b.now m) ∧ (∀ p, a = some p → w.heap.size ≤ p.block) ∧ SBk w' P (payB b m) ∧ Fr (· = P) w w' := by
  have hpt : b.now.pol.size ≤ 1000000000000000 := by
    have hck := hk.now.ck
    unfold checkE at hck
    by_cases hl : 120 < b.now.pol.size
    · rw [if_pos hl] at hck; simp at hck
    · omega
  have SH := hide (share_row b.now.pol b.now.owed m hpt)
  have HPARTS := hide (fun hE => pay_parts hk.now (m := m) hE)
  have cpol := SRow.pol h
  obtain ⟨f0, f1, f2, f3, f4, f5, f6, f7, e8, c0, c1, c2, c3, c4, c5, c6, c7⟩ := SRow.eight h hk.now.l8
  have HS := hide h
  have HK := hide hk
  have HE8 := hide e8
  clear h hk e8
  by_cases hE : payE b.now m = 0
  · have e2 : payB b m = ⟨⟨lessZ b.now.owed (payL b.now m) 8, b.now.pol⟩, (b.turn b.now).past⟩ := by simp only [payB, hE, if_true, Bk.turn]
    rw [e2, hE]
    have HPT := hide (unhide HPARTS hE)
    have hE' : shE b.now.pol b.now.owed m = 0 := hE
    have SH1 : Hid (ShareRow b.now.pol b.now.owed m (payL b.now m) (payR b.now m) 0 (shP b.now.pol b.now.owed m)) := by
      have := unhide SH
      rw [hE'] at this
      exact this
    clear e2 hE hE' SH HPARTS
    generalize hL : payL b.now m = L at *
    generalize hR : payR b.now m = R at *
    generalize hSP : shP b.now.pol b.now.owed m = SP at *
    clear hL hR hSP
    go_enter Try.func29, Try.ntmps29
    go_wp2_with fail
    refine (listOf_any f0 f1 f2 f3 f4 f5 f6 f7 _).mono ?_
    rintro e w1 ⟨g1, rfl, h1, h2, h3, h4⟩
    rw [← unhide HE8] at h3
    have HI1 := hide h3
    have HB1 := hide h4
    have cpol1 : w1.cell? ⟨P, 8, none⟩ = some (.string b.now.pol) := (h4.cell (p := ⟨P, 8, none⟩) (SRow.lt (unhide HS))).trans cpol
    have HS1 := hide (SRow.below (unhide HS) h4 (SRow.lt (unhide HS)))
    have hz1 := h4.size
    clear h1 h2 h3 h4 c0 c1 c2 c3 c4 c5 c6 c7 cpol
    obtain ⟨pl, hpl⟩ : ∃ pl, b.now.pol = pl := ⟨_, rfl⟩
    rw [hpl] at SH1 cpol1
    have HPL := hide hpl
    clear hpl
    go_wp2_with fail
    refine (unhide SH1 _ _ _ w1 (unhide HI1) (by omega)).mono ?_
    rintro e w2 ⟨a2, n2, k2, rfl, h1, h2, h3⟩
    have hn2 : n2 = 8 := by rw [← h1.1.1]; exact (unhide HPT).1
    subst hn2
    have HI2 := hide h1
    have HA2 := hide h2
    have HB2 := hide (below_step (unhide HB1) h3)
    have HS2 := hide (SRow.below (unhide HS1) h3 (SRow.lt (unhide HS1)))
    clear h1 h2 h3 HS1 HB1 HI1 cpol1
    go_wp2_with fail
    refine (remember_any P b _ (unhide HS2)).mono ?_
    rintro e w3 ⟨rfl, hs3, hf3⟩
    obtain ⟨gb, goff, rfl, hcs⟩ := (unhide HI2).1.2 (by omega)
    have hgw : w.heap.size ≤ gb := Nat.le_trans hz1 (unhide HA2 _ rfl)
    have hgP : gb ≠ P := by have := SRow.lt (unhide HS); omega
    have hg2 : gb < w2.heap.size := by
      have := hcs 0 (by omega)
      by_cases hx : gb < w2.heap.size
      · exact hx
      · simp [World.cell?, hx] at this
    have HI3 : Hid (IntsF w3 (some ⟨gb, goff, none⟩) 8 L) := hf3.intsF (unhide HI2) (by rintro p hp; simp at hp; subst hp; exact hgP)
    have HS3 : Hid (SRow w3 P ⟨lessZ b.now.owed L 0, b.now.pol⟩ (b.turn b.now).past ((b.turn b.now).past.length : Nat)) := by
      rw [lessZ_zero (unhide HK).now.l8]
      exact hs3
    have HF3 : Hid (Fr (· = P) w w3) := (Fr.of_below (unhide HB2)).trans hf3 fun i hi => .inl hi
    clear hs3 hf3 hcs HI2 HS2 HB2
    clear SH1 HA2 HE8 hz1
    go_wp2_with fail
    go_loopw [12] (fun i wr => ∃ k : Nat, k ≤ 8 ∧ i = .int .i64 k ∧ Hid (SRow wr P ⟨lessZ b.now.owed L k, b.now.pol⟩ (b.turn b.now).past ((b.turn b.now).past.length : Nat)) ∧ Hid (IntsF wr (some ⟨gb, goff, none⟩) 8 L) ∧ Hid (Fr (· = P) w wr)) (fun i _ => 8 - (intOf i).toNat)
    case atStart => exact ⟨0, by omega, rfl, HS3, HI3, HF3⟩
    case round =>
      obtain ⟨k, hk8, rfl, hs, hi, hf⟩ := hrel
      clear HS3 HI3 HF3
      by_cases hlt : k < 8
      · obtain ⟨gb', goff', heq, hcs⟩ := (unhide hi).1.2 (by omega)
        simp only [Option.some.injEq, Addr.mk.injEq, and_true] at heq
        obtain ⟨rfl, rfl⟩ := heq
        have cy := hcs k hlt
        have cx := SRow.owed (unhide hs) k hlt
        have fx := SRow.frozen (unhide hs) k
        have hx1 : (lessZ b.now.owed L k).getD k 0 = b.now.owed.getD k 0 := by rw [lessZ_at _ _ _ _ hlt, if_neg (Nat.lt_irrefl _)]
        have hb1 := (unhide HK).now.am k
        have hb2 := (unhide HPT).2.1 k
        have hset := lessZ_succ b.now.owed L k hlt
        rw [hx1] at cx
        obtain ⟨x, hx⟩ : ∃ x, b.now.owed.getD k 0 = x := ⟨_, rfl⟩
        obtain ⟨y, hy⟩ : ∃ y, L.getD k 0 = y := ⟨_, rfl⟩
        rw [hx] at cx hb1 hb2 hset
        rw [hy] at cy hb2 hset
        have HSET := hide hset
        clear hcs hx1 hx hy hset
        go_wp2
        go_region
        all_goals go_wp2
        go_roundw
        case rel =>
          refine ⟨k + 1, by omega, by go_num, ?_, ?_, ?_⟩
          · have h1 := SRow.setOwed (unhide hs) k (by show k < (lessZ b.now.owed L k).length; rw [lessZ_len]; exact hlt) (lessZ_len _ _ _) (x - y)
            have h2 : SRow (wr.setCell ⟨P, k, none⟩ (.int .i64 (x - y))) P ⟨(lessZ b.now.owed L k).set k (x - y), b.now.pol⟩ (b.turn b.now).past ((b.turn b.now).past.length : Nat) := h1
            rw [unhide HSET] at h2
            exact h2.drew
          · exact ((Fr.refl (· = P) wr).set (p := ⟨P, k, none⟩) (.inl rfl) (.int .i64 (x - y))).drew.intsF (unhide hi) (by rintro p hp; simp at hp; subst hp; exact hgP)
          · exact ((unhide hf).set (p := ⟨P, k, none⟩) (.inl rfl) (.int .i64 (x - y))).drew
        case measure => simp [intOf]; omega
      · have hk' : k = 8 := by omega
        subst hk'
        go_wp2_with fail
        refine bodyPost_ret (v := .tuple #[.slice (some ⟨gb, goff, none⟩) 8 k2, .int .i64 R, .int .i64 0]) (by simp [results, Try.results29, go_sem]) rfl ?_
        exact ⟨_, 8, k2, rfl, unhide hi, fun p hp => by simp at hp; subst hp; exact hgw, unhide hs, unhide hf⟩
  · have e2 : payB b m = b := by simp only [payB, if_neg hE]
    have e3 : payL b.now m = [] := by
      have : ¬ shE b.now.pol b.now.owed m = 0 := hE
      simp only [payL, shL, if_neg this]
    have e4 : payR b.now m = 0 := by
      have : ¬ shE b.now.pol b.now.owed m = 0 := hE
      simp only [payR, shR, if_neg this]
    rw [e2, e3, e4]
    have hne : (payE b.now m != 0) = true := by simpa using hE
    have SH1 : Hid (ShareRow b.now.pol b.now.owed m [] 0 (payE b.now m) (shP b.now.pol b.now.owed m)) := by
      have := unhide SH
      rw [show shL b.now.pol b.now.owed m = [] from e3, show shR b.now.pol b.now.owed m = 0 from e4] at this
      exact this
    clear e2 e3 e4 hE SH HPARTS
    generalize hL : payE b.now m = E at *
    generalize hSP : shP b.now.pol b.now.owed m = SP at *
    clear hL hSP
    go_enter Try.func29, Try.ntmps29
    go_wp2_with fail
    refine (listOf_any f0 f1 f2 f3 f4 f5 f6 f7 _).mono ?_
    rintro e w1 ⟨g1, rfl, h1, h2, h3, h4⟩
    rw [← unhide HE8] at h3
    have HI1 := hide h3
    have HB1 := hide h4
    have cpol1 : w1.cell? ⟨P, 8, none⟩ = some (.string b.now.pol) := (h4.cell (p := ⟨P, 8, none⟩) (SRow.lt (unhide HS))).trans cpol
    have HS1 := hide (SRow.below (unhide HS) h4 (SRow.lt (unhide HS)))
    clear h1 h2 h3 h4 c0 c1 c2 c3 c4 c5 c6 c7 cpol
    obtain ⟨pl, hpl⟩ : ∃ pl, b.now.pol = pl := ⟨_, rfl⟩
    rw [hpl] at SH1 cpol1
    have HPL := hide hpl
    clear hpl
    go_wp2_with fail
    refine (unhide SH1 _ _ _ w1 (unhide HI1) (by omega)).mono ?_
    rintro e w2 ⟨a2, n2, k2, rfl, h1, h2, h3⟩
    have HB2 := hide (below_step (unhide HB1) h3)
    have HS2 := hide (SRow.below (unhide HS1) h3 (SRow.lt (unhide HS1)))
    clear h1 h2 h3 HS1 HB1 HI1 cpol1
    go_wp2_with fail
    refine bodyPost_ret (v := .tuple #[.slice none 0 0, .int .i64 0, .int .i64 E]) (by simp [results, Try.results29, go_sem]) rfl ?_
    exact ⟨none, 0, 0, rfl, ⟨⟨rfl, fun h => by omega⟩, fun p hp => by simp at hp⟩, fun p hp => by simp at hp, unhide HS2, Fr.of_below (unhide HB2)⟩

end Go.Proofs.Ytmdjdpofpkgffab
