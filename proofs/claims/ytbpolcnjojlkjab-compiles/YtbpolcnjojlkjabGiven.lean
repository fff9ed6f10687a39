/- Same, Given, checkAmounts, by their contracts. -/
import Derived.Test.YtbpolcnjojlkjabBase
namespace Go.Proofs.Ytbpolcnjojlkjab
open Go.ChangeShapes Go.WideShapes Go.ChangeAt Go.RowKit
set_option linter.unusedVariables false

def amt (z : Int) : Bool := decide (0 ≤ z ∧ z ≤ 1000000000)
theorem amt_t {z : Int} : amt z = true ↔ (0 ≤ z ∧ z ≤ 1000000000) := by simp [amt]
theorem amt_f {z : Int} : amt z = false ↔ (z < 0 ∨ 1000000000 < z) := by simp [amt]; omega

/-- The first number that may not be owed. -/
def badAt (zs : List Int) : Nat := zs.findIdx fun z => !amt z

theorem badAt_eq {zs : List Int} {k : Nat} (hk : k < zs.length) (h : ∀ j, j < k → amt (zs.getD j 0) = true) (hb : amt (zs.getD k 0) = false) : badAt zs = k := by
  unfold badAt
  rw [List.findIdx_eq hk]
  refine ⟨?_, fun j hj => ?_⟩
  · have : zs.getD k 0 = zs[k] := by simp [List.getElem?_eq_getElem hk]
    rw [← this, hb]; rfl
  · have : zs.getD j 0 = zs[j] := by simp [List.getElem?_eq_getElem (show j < zs.length by omega)]
    rw [← this, h j hj]; rfl

theorem badAt_all {zs : List Int} (h : ∀ j, j < zs.length → amt (zs.getD j 0) = true) : badAt zs = zs.length := by
  unfold badAt
  rw [List.findIdx_eq_length]
  intro x hx
  obtain ⟨j, hj, rfl⟩ := List.getElem_of_mem hx
  have := h j hj
  simp [List.getElem?_eq_getElem hj] at this
  simp [this]

def givenE (zs : List Int) (m : Int) : Int := if zs.length = 8 then (if badAt zs < 8 then 5 else if amt m then 0 else 5) else 4
def givenP (zs : List Int) (m : Int) : Int := if zs.length = 8 then (if badAt zs < 8 then badAt zs else if amt m then 0 else 8) else 0

theorem ret2_int {a b c d : Int} (h : a = c) (k : b = d) : Ending.returned (.tuple #[.int .i64 a, .int .i64 b]) = .returned (.tuple #[.int .i64 c, .int .i64 d]) := by rw [h, k]

theorem given_bad {zs : List Int} {m : Int} {k : Nat} (hl : zs.length = 8) (hk : k < 8) (h : ∀ j, j < k → amt (zs.getD j 0) = true) (hb : amt (zs.getD k 0) = false) : givenE zs m = 5 ∧ givenP zs m = k := by
  have := badAt_eq (by omega) h hb
  simp [givenE, givenP, hl, this, hk]
theorem given_end {zs : List Int} {m : Int} (hl : zs.length = 8) (h : ∀ j, j < 8 → amt (zs.getD j 0) = true) : badAt zs = 8 := by
  rw [badAt_all (by rw [hl]; exact h), hl]

theorem Ints.at {w : World} {a : Option Addr} {len : Nat} {zs : List Int} (h : Ints w a len zs) (hp : 0 < len) : ∃ b off, a = some ⟨b, off, none⟩ ∧ ∀ i, i < len → w.cell? ⟨b, off + i, none⟩ = some (.int .i64 (zs.getD i 0)) := h.2 hp

set_option maxHeartbeats 1000000 in
theorem given_any (a : Option Addr) (len cap : Nat) (zs : List Int) (m : Int) (w : World) (h : Ints w a len zs) (hr : len * 8 ≤ 140737488351232) :
    Calls Try.prog 16 #[.slice a len cap, .int .i64 m] w fun e w' => e = .returned (.tuple #[.int .i64 (givenE zs m), .int .i64 (givenP zs m)]) ∧ w' = w := by
  obtain ⟨hlen, hc⟩ := h
  by_cases h8 : len = 8
  · subst h8
    obtain ⟨b, off, rfl, hcs⟩ := hc (by omega)
    clear hc
    have HC := hide hcs
    clear hcs
    have HL := hide hlen
    clear hlen
    go_enter Try.func16, Try.ntmps16
    go_wp2
    go_loop [6] (fun i => ∃ k : Nat, k ≤ 8 ∧ i = .int .i64 k ∧ Hid (∀ j, j < k → amt (zs.getD j 0) = true)) (fun i => 8 - (intOf i).toNat)
    case atStart => exact ⟨0, by omega, rfl, fun j hj => by omega⟩
    case round =>
      obtain ⟨k, hk, rfl, hall⟩ := hrel
      by_cases hlt : k < 8
      · obtain ⟨q, hq⟩ : ∃ q, q = zs.getD k 0 := ⟨_, rfl⟩
        have hck := unhide HC k hlt
        rw [← hq] at hck
        have HQ := hide hq
        clear hq
        by_cases h0 : q < 0
        · go_wp2
          go_ret2
          have := given_bad (m := m) (unhide HL) hlt (unhide hall) (by rw [← unhide HQ, amt_f]; omega)
          exact ⟨ret2_int this.1.symm this.2.symm, rfl⟩
        · by_cases h1 : 1000000000 < q
          · go_wp2
            go_ret2
            have := given_bad (m := m) (unhide HL) hlt (unhide hall) (by rw [← unhide HQ, amt_f]; omega)
            exact ⟨ret2_int this.1.symm this.2.symm, rfl⟩
          · go_wp2
            go_round
            case rel =>
              refine ⟨k + 1, by omega, by go_num, fun j hj => ?_⟩
              by_cases e : j = k
              · subst e; rw [← unhide HQ, amt_t]; omega
              · exact unhide hall j (by omega)
            case measure => simp [intOf]; omega
      · have hk8 : k = 8 := by omega
        subst hk8
        have hb := given_end (m := m) (unhide HL) (unhide hall)
        have HE : Hid (badAt zs = 8) := hb
        clear hb
        by_cases h0 : m < 0
        · go_wp2
          go_ret2
          have e : amt m = false := by rw [amt_f]; omega
          exact ⟨ret2_int (by simp [givenE, unhide HL, unhide HE, e]) (by simp [givenP, unhide HL, unhide HE, e]), rfl⟩
        · by_cases h1 : 1000000000 < m
          · go_wp2
            go_ret2
            have e : amt m = false := by rw [amt_f]; omega
            exact ⟨ret2_int (by simp [givenE, unhide HL, unhide HE, e]) (by simp [givenP, unhide HL, unhide HE, e]), rfl⟩
          · go_wp2
            go_ret2
            have e : amt m = true := by rw [amt_t]; omega
            exact ⟨ret2_int (by simp [givenE, unhide HL, unhide HE, e]) (by simp [givenP, unhide HL, unhide HE, e]), rfl⟩
  · have hne : ((len : Int) == 8) = false := by simp; omega
    have hne' : ((len : Int) != 8) = true := by simp; omega
    have e1 : givenE zs m = 4 := by simp [givenE, hlen, h8]
    have e2 : givenP zs m = 0 := by simp [givenP, hlen, h8]
    rw [e1, e2]
    clear e1 e2
    go_enter Try.func16, Try.ntmps16
    go_wp2
    go_ret2
    exact ⟨rfl, rfl⟩

theorem isAmount_any (z : Int) (w : World) : Calls Try.prog 54 #[.int .i64 z] w fun e w' => e = .returned (.bool (amt z)) ∧ w' = w := by
  by_cases h0 : 0 ≤ z
  · by_cases h1 : z ≤ 1000000000
    · have e : amt z = true := by rw [amt_t]; omega
      rw [e]; clear e
      go_enter Try.func54, Try.ntmps54
      go_wp2
      go_ret
      exact ⟨rfl, rfl⟩
    · have e : amt z = false := by rw [amt_f]; omega
      rw [e]; clear e
      go_enter Try.func54, Try.ntmps54
      go_wp2
      go_ret
      exact ⟨rfl, rfl⟩
  · have e : amt z = false := by rw [amt_f]; omega
    rw [e]; clear e
    go_enter Try.func54, Try.ntmps54
    go_wp2
    go_ret
    exact ⟨rfl, rfl⟩

set_option maxHeartbeats 1000000 in
theorem checkAmounts_any (a : Option Addr) (len cap : Nat) (zs : List Int) (m : Int) (w : World) (h : Ints w a len zs) (hr : len * 8 ≤ 140737488351232) :
    Calls Try.prog 38 #[.slice a len cap, .int .i64 m] w fun e w' => e = .returned (.tuple #[.int .i64 (givenE zs m), .int .i64 (givenP zs m)]) ∧ w' = w := by
  obtain ⟨hlen, hc⟩ := h
  by_cases h8 : len = 8
  · subst h8
    obtain ⟨b, off, rfl, hcs⟩ := hc (by omega)
    clear hc
    have HC := hide hcs
    clear hcs
    have HL := hide hlen
    clear hlen
    go_enter Try.func38, Try.ntmps38
    go_wp2
    go_loop [6] (fun i => ∃ k : Nat, k ≤ 8 ∧ i = .int .i64 k ∧ Hid (∀ j, j < k → amt (zs.getD j 0) = true)) (fun i => 8 - (intOf i).toNat)
    case atStart => exact ⟨0, by omega, rfl, fun j hj => by omega⟩
    case round =>
      obtain ⟨k, hk, rfl, hall⟩ := hrel
      by_cases hlt : k < 8
      · obtain ⟨q, hq⟩ : ∃ q, q = zs.getD k 0 := ⟨_, rfl⟩
        have hck := unhide HC k hlt
        rw [← hq] at hck
        have HQ := hide hq
        clear hq
        cases hb : amt q
        · go_wp2_with (go_at_call 54; refine (isAmount_any _ _).mono ?_; rintro e w' ⟨rfl, rfl⟩)
          go_ret2
          have := given_bad (m := m) (unhide HL) hlt (unhide hall) (by rw [← unhide HQ, hb])
          exact ⟨ret2_int this.1.symm this.2.symm, rfl⟩
        · go_wp2_with (go_at_call 54; refine (isAmount_any _ _).mono ?_; rintro e w' ⟨rfl, rfl⟩)
          go_round
          case rel =>
            refine ⟨k + 1, by omega, by go_num, fun j hj => ?_⟩
            by_cases e : j = k
            · subst e; rw [← unhide HQ, hb]
            · exact unhide hall j (by omega)
          case measure => simp [intOf]; omega
      · have hk8 : k = 8 := by omega
        subst hk8
        have hb := given_end (m := m) (unhide HL) (unhide hall)
        have HE : Hid (badAt zs = 8) := hb
        clear hb
        cases hb : amt m
        · go_wp2_with (go_at_call 54; refine (isAmount_any _ _).mono ?_; rintro e w' ⟨rfl, rfl⟩)
          go_ret2
          exact ⟨ret2_int (by simp [givenE, unhide HL, unhide HE, hb]) (by simp [givenP, unhide HL, unhide HE, hb]), rfl⟩
        · go_wp2_with (go_at_call 54; refine (isAmount_any _ _).mono ?_; rintro e w' ⟨rfl, rfl⟩)
          go_ret2
          exact ⟨ret2_int (by simp [givenE, unhide HL, unhide HE, hb]) (by simp [givenP, unhide HL, unhide HE, hb]), rfl⟩
  · have hne : ((len : Int) == 8) = false := by simp; omega
    have hne' : ((len : Int) != 8) = true := by simp; omega
    have e1 : givenE zs m = 4 := by simp [givenE, hlen, h8]
    have e2 : givenP zs m = 0 := by simp [givenP, hlen, h8]
    rw [e1, e2]
    clear e1 e2
    go_enter Try.func38, Try.ntmps38
    go_wp2
    go_ret2
    exact ⟨rfl, rfl⟩

theorem list_eq_of_getD {zs ys : List Int} (hl : zs.length = ys.length) (h : ∀ j, j < zs.length → zs.getD j 0 = ys.getD j 0) : zs = ys := by
  apply List.ext_getElem hl
  intro j h1 h2
  have := h j h1
  simpa [List.getElem?_eq_getElem h1, List.getElem?_eq_getElem h2] using this

set_option maxHeartbeats 1000000 in
theorem same_any (a : Option Addr) (len cap : Nat) (zs : List Int) (a' : Option Addr) (len' cap' : Nat) (ys : List Int) (w : World) (h : Ints w a len zs) (h' : Ints w a' len' ys) (hr : len * 8 ≤ 140737488351232) :
    Calls Try.prog 11 #[.slice a len cap, .slice a' len' cap'] w fun e w' => e = .returned (.bool (decide (zs = ys))) ∧ ∃ n, w' = w.drewN n := by
  obtain ⟨hlen, hc⟩ := h
  obtain ⟨hlen', hc'⟩ := h'
  by_cases hll : len = len'
  · subst hll
    have HL := hide hlen
    have HL' := hide hlen'
    clear hlen hlen'
    have HC := hide hc
    have HC' := hide hc'
    clear hc hc'
    go_enter Try.func11, Try.ntmps11
    go_wp2
    go_loopw [5] (fun i wr => ∃ k : Nat, k ≤ len ∧ i = .int .i64 k ∧ Hid (∀ j, j < k → zs.getD j 0 = ys.getD j 0) ∧ ∃ n, wr = w.drewN n) (fun i _ => len - (intOf i).toNat)
    case atStart => exact ⟨0, Nat.zero_le _, rfl, fun j hj => by omega, 0, rfl⟩
    case round =>
      obtain ⟨k, hk, rfl, hall, n, rfl⟩ := hrel
      by_cases hlt : k < len
      · obtain ⟨b, off, rfl, hcs⟩ := unhide HC (by omega)
        obtain ⟨b', off', rfl, hcs'⟩ := unhide HC' (by omega)
        obtain ⟨q, hq⟩ : ∃ q, q = zs.getD k 0 := ⟨_, rfl⟩
        obtain ⟨q', hq'⟩ : ∃ q', q' = ys.getD k 0 := ⟨_, rfl⟩
        have hck := hcs k hlt
        have hck' := hcs' k hlt
        rw [← hq] at hck
        rw [← hq'] at hck'
        have HQ := hide hq
        have HQ' := hide hq'
        clear hq hq' hcs hcs'
        by_cases he : q = q'
        · subst he
          go_wp2
          go_quiet (fail)
          go_wp2
          go_roundw
          case rel =>
            refine ⟨k + 1, by omega, by go_num, fun j hj => ?_, ?_⟩
            · by_cases e : j = k
              · subst e; rw [← unhide HQ, ← unhide HQ']
              · exact unhide hall j (by omega)
            · exact ⟨_, rfl⟩
          case measure => simp [intOf]; omega
        · have hne : (q != q') = true := by simp [he]
          go_wp2
          go_quiet (fail)
          go_wp2
          go_ret
          refine ⟨?_, _, World.drewN_drewN _ _ _⟩
          have e1 : decide (zs = ys) = false := by
            simp only [decide_eq_false_iff_not]
            intro e
            apply he
            rw [unhide HQ, unhide HQ', e]
          rw [e1]; rfl
      · go_wp2
        go_ret
        refine ⟨?_, _, rfl⟩
        have e1 : decide (zs = ys) = true := by
          simp only [decide_eq_true_eq]
          apply list_eq_of_getD (by rw [unhide HL, unhide HL'])
          intro j hj
          exact unhide hall j (by have := unhide HL; omega)
        rw [e1]; rfl
  · have hne : ((len : Int) != (len' : Int)) = true := by simp; omega
    have e1 : decide (zs = ys) = false := by
      simp; intro e; subst e; omega
    rw [e1]
    clear e1
    go_enter Try.func11, Try.ntmps11
    go_wp2
    go_ret
    exact ⟨rfl, 0, rfl⟩

theorem num_any (x : Int) (w : World) : Calls Try.prog 7 #[.int .i64 x] w fun e w' => e = .returned (.int .i64 x) ∧ w' = w := by
  go_enter Try.func7, Try.ntmps7
  go_wp2
  go_ret
  exact ⟨rfl, rfl⟩
end Go.Proofs.Ytbpolcnjojlkjab
