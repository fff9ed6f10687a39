/- BookOps: New, remember, Undo of the program's book. -/
import Derived.Test.YtmdjdpofpkgffabBookMem
namespace Go.Proofs.Ytmdjdpofpkgffab
open Go.ChangeShapes Go.WideShapes Go.ChangeAt Go.RowKit
open Split
set_option linter.unusedVariables false
set_option linter.unusedSimpArgs false

theorem zc_size : Try.zeroCells90.size = 118 := by decide +kernel
theorem zc_count : Try.zeroCells90[117]? = some (.int .i64 0) := by kernel_rfl
theorem zc_num : ∀ i, i < 8 → Try.zeroCells90[0 + i]? = some (.int .i64 0) := fun i hi => by
  obtain rfl | rfl | rfl | rfl | rfl | rfl | rfl | rfl : i = 0 ∨ i = 1 ∨ i = 2 ∨ i = 3 ∨ i = 4 ∨ i = 5 ∨ i = 6 ∨ i = 7 := by omega
  all_goals kernel_rfl
theorem zc_txt : Try.zeroCells90[8]? = some (.string ⟨#[]⟩) := by kernel_rfl

set_option maxHeartbeats 1000000 in
theorem snew_any (w : World) : Calls Try.prog 25 #[] w fun e w' => e = .returned (.pointer (some ⟨w.heap.size, 0, none⟩)) ∧ SBk w' w.heap.size bk0 ∧ Below w.heap.size w w' := by
  go_enter Try.func25, Try.ntmps25
  go_wp2
  go_ret
  refine ⟨rfl, ⟨by simp [bk0], _, heap_alloc_new _ _, zc_size, ⟨fun i hi => ?_, zc_txt⟩, fun k p hp => by simp [bk0] at hp, zc_count⟩, (Below.refl _ _).alloc (Nat.le_refl _) _⟩
  rw [zc_num i hi]
  simp only [bk0, List.getD_eq_getElem?_getD, List.getElem?_replicate]
  split <;> simp

set_option maxHeartbeats 1000000 in
theorem remember_any (P : Nat) (b : Bk) (w : World) (h : SBk w P b) : Calls Try.prog 54 #[.pointer (some ⟨P, 0, none⟩)] w fun e w' => e = .returned (.tuple #[]) ∧ SBk w' P (b.turn b.now) ∧ Fr (· = P) w w' := by
  have hc := SRow.count h
  have HB := hide h
  clear h
  obtain ⟨n, hn⟩ : ∃ n, b.past.length = n := ⟨_, rfl⟩
  rw [hn] at hc
  have h12 : n ≤ 12 := by have := (unhide HB).few; omega
  have HN := hide hn
  clear hn
  by_cases hf : n = 12
  · subst hf
    go_enter Try.func54, Try.ntmps54
    go_wp2
    have HS0 : Hid (SRow w P b.now (shf b.past 0) 12) := by
      have := unhide HB
      unfold SBk at this
      rw [unhide HN] at this
      rw [shf_zero (unhide HN)]
      exact this
    go_loopw [2] (fun i wr => ∃ k : Nat, k ≤ 11 ∧ i = .int .i64 ((k + 1 : Nat) : Int) ∧ Hid (SRow wr P b.now (shf b.past k) 12) ∧ Hid (Fr (· = P) w wr)) (fun i _ => 12 - (intOf i).toNat)
    case atStart => exact ⟨0, by omega, rfl, HS0, Fr.refl _ _⟩
    case round =>
      obtain ⟨k, hk, rfl, hs, hfw⟩ := hrel
      clear hc HS0
      have hfr : ∀ i, wr.frozen? ⟨P, i, none⟩ = false := fun i => SRow.frozen (unhide hs) i
      by_cases hlt : k < 11
      · have hsrc := shf_at b.past k (k + 1) (by omega)
        rw [if_neg (by omega)] at hsrc
        obtain ⟨x0, x1, x2, x3, x4, x5, x6, x7, s, hpv, c0, c1, c2, c3, c4, c5, c6, c7, c8⟩ := SRow.nine (unhide hs) hsrc
        obtain ⟨y0, y1, y2, y3, y4, y5, y6, y7, y8, d0, d1, d2, d3, d4, d5, d6, d7, d8⟩ := SRow.any9 (unhide hs) (9 + k * 9) (by omega)
        have HPV := hide hpv
        clear hpv hsrc
        go_wp2
        go_region
        all_goals go_wp2
        go_roundw
        case rel =>
          refine ⟨k + 1, by omega, by go_num, ?_, ?_⟩
          · have h1 := SRow.setPage (unhide hs) k (by rw [shf_len]; omega) (b.past.getD (k + 1) pgNone)
            rw [shf_succ (unhide HN) k hlt, unhide HPV, set9] at h1
            exact h1.drew
          · have h1 := (Fr.sets (S := (· = P)) (.inl rfl) [.int .i64 x0, .int .i64 x1, .int .i64 x2, .int .i64 x3, .int .i64 x4, .int .i64 x5, .int .i64 x6, .int .i64 x7, .string s] (9 + k * 9) _ (unhide hfw)).drew
            rw [set9] at h1
            exact h1
        case measure => simp [intOf]; omega
      · have hk' : k = 11 := by omega
        subst hk'
        have hc := SRow.count (unhide hs)
        obtain ⟨x0, x1, x2, x3, x4, x5, x6, x7, s, hpv, c0, c1, c2, c3, c4, c5, c6, c7, c8⟩ := SRow.nine0 (unhide hs)
        obtain ⟨y0, y1, y2, y3, y4, y5, y6, y7, y8, d0, d1, d2, d3, d4, d5, d6, d7, d8⟩ := SRow.any9 (unhide hs) 108 (by omega)
        have HPV := hide hpv
        clear hpv
        simp only [Nat.zero_add] at c1 c2 c3 c4 c5 c6 c7 c8
        simp only [Nat.reduceAdd] at d1 d2 d3 d4 d5 d6 d7 d8
        go_wp2
        go_region
        all_goals go_wp2
        go_end0
        have e : b.turn b.now = ⟨b.now, b.past.tail ++ [b.now]⟩ := by simp [Bk.turn, unhide HN]
        rw [e]
        have h0 := SRow.less (unhide hs) 11
        rw [shf_end (unhide HN)] at h0
        have hl : b.past.tail.length = 11 := by simp [unhide HN]
        have h1 := SRow.push (h0.setCount 11) (by omega) b.now
        rw [hl, unhide HPV, set9] at h1
        have h2 := h1.setCount 12
        refine ⟨rfl, ?_, ?_⟩
        · show SRow _ P b.now (b.past.tail ++ [b.now]) ((b.past.tail ++ [b.now]).length : Nat)
          have hl2 : (((b.past.tail ++ [b.now]).length : Nat) : Int) = 12 := by simp [unhide HN]
          rw [hl2]
          exact h2.drew
        · have h1 := ((Fr.sets (S := (· = P)) (.inl rfl) [.int .i64 x0, .int .i64 x1, .int .i64 x2, .int .i64 x3, .int .i64 x4, .int .i64 x5, .int .i64 x6, .int .i64 x7, .string s] 108 _ ((unhide hfw).set (p := ⟨P, 117, none⟩) (.inl rfl) (.int .i64 11))).set (p := ⟨P, 117, none⟩) (.inl rfl) (.int .i64 12)).drew
          rw [set9] at h1
          exact h1
  · have hne : ((n : Int) == 12) = false := by simp; omega
    have hlt : n < 12 := by omega
    obtain ⟨x0, x1, x2, x3, x4, x5, x6, x7, s, hpv, c0, c1, c2, c3, c4, c5, c6, c7, c8⟩ := SRow.nine0 (unhide HB)
    obtain ⟨y0, y1, y2, y3, y4, y5, y6, y7, y8, d0, d1, d2, d3, d4, d5, d6, d7, d8⟩ := SRow.any9 (unhide HB) (9 + n * 9) (by omega)
    have HPV := hide hpv
    have hfr : ∀ i, w.frozen? ⟨P, i, none⟩ = false := fun i => SRow.frozen (unhide HB) i
    clear hpv
    simp only [Nat.zero_add] at c1 c2 c3 c4 c5 c6 c7 c8
    go_enter Try.func54, Try.ntmps54
    go_wp2
    go_region
    all_goals go_wp2
    go_end0
    have e : b.turn b.now = ⟨b.now, b.past ++ [b.now]⟩ := by simp [Bk.turn, unhide HN, hf]
    rw [e]
    have h1 := SRow.push (unhide HB) (by rw [unhide HN]; exact hlt) b.now
    rw [unhide HN, unhide HPV, set9] at h1
    have h2 := h1.setCount ((n : Int) + 1)
    refine ⟨rfl, ?_, ?_⟩
    · show SRow _ P b.now (b.past ++ [b.now]) ((b.past ++ [b.now]).length : Nat)
      have hl : (((b.past ++ [b.now]).length : Nat) : Int) = (n : Int) + 1 := by simp [unhide HN]
      rw [hl]
      exact h2.drew
    · have h1 := ((Fr.sets (S := (· = P)) (.inl rfl) [.int .i64 x0, .int .i64 x1, .int .i64 x2, .int .i64 x3, .int .i64 x4, .int .i64 x5, .int .i64 x6, .int .i64 x7, .string s] (9 + n * 9) _ (Fr.refl (· = P) w)).set (p := ⟨P, 117, none⟩) (.inl rfl) (.int .i64 ((n : Int) + 1))).drew
      rw [set9] at h1
      exact h1
end Go.Proofs.Ytmdjdpofpkgffab
