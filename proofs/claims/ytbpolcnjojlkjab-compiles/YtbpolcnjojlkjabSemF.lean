/- Plain: what a policy pays, step by step. -/
import Derived.Test.YtbpolcnjojlkjabSem
import Derived.Test.YtbpolcnjojlkjabRateM
namespace Go.Proofs.Ytbpolcnjojlkjab
open Split
set_option linter.unusedVariables false
set_option linter.unusedSimpArgs false

def nxM (t : ByteArray) (i : Nat) : Nat :=
  if (headM t i).2.1 = 0 then (headM t i).1
  else if (headM t i).2.1 = 1 then endJ t ((headM t i).1 + 1) + 1
  else endJ t (endJ t ((headM t i).1 + 1) + 1 + 1) + 1

/-- One step, its blocks by rec. -/
def stpM (t : ByteArray) (rec : Nat → Pu → Pu) (i : Nat) (p : Pu) : Pu :=
  if (headM t i).2.1 = 0 then doM (Split.stM t i) p
  else if (headM t i).2.1 = 1 then backM (rec ((headM t i).1 + 1) (holdM p (Split.stM t i).amount))
  else (if p.owed.getD (Split.stM t i).bucket.toNat 0 ≤ (Split.stM t i).amount then rec (endJ t ((headM t i).1 + 1) + 1 + 1) p else rec ((headM t i).1 + 1) p)

theorem sem_eq (t : ByteArray) (f i : Nat) (p : Pu) : semM t (f + 1) i p = if i < t.size ∧ byt t i ≠ 41 then semM t f (nxM t i) (stpM t (semM t f) i p) else p := by
  simp only [semM, nxM, stpM]
  split
  · split
    · rfl
    · split
      · rfl
      · rfl
  · rfl

/-- Places behind a step that stands. -/
theorem step_places {t : ByteArray} {i : Nat} (hi : i ≤ t.size) (hok : okJ t i = true) (hc : i < t.size ∧ byt t i ≠ 41) :
    i < nxM t i ∧ nxM t i ≤ t.size ∧ okJ t (nxM t i) = true ∧ endJ t i = endJ t (nxM t i) ∧ (headM t i).2.2 = true ∧ i + 2 ≤ (headM t i).1 ∧ (headM t i).1 ≤ t.size ∧
    ((headM t i).2.1 = 0 ∨ ((headM t i).2.1 = 1 ∧ BlkAt t (headM t i).1) ∨ ((headM t i).2.1 = 2 ∧ BlkAt t (headM t i).1 ∧ BlkAt t (endJ t ((headM t i).1 + 1) + 1))) := by
  have hr := head_rng hc.1
  rcases scan_cases hi hok with ⟨h1, _⟩ | ⟨_, ho, hn, hok1, h2, h3⟩ | ⟨_, ho, hn, hB, hok1, h2, h3⟩ | ⟨_, ho, hn, hB, hB2, hok1, h2, h3⟩
  · exact absurd hc h1
  · have hl := head_lt hc.1 ho
    have e : nxM t i = (headM t i).1 := by simp [nxM, hn]
    rw [e]
    exact ⟨by omega, hr.2, hok1, h3, ho, hl, hr.2, .inl hn⟩
  · have hl := head_lt hc.1 ho
    have e : nxM t i = endJ t ((headM t i).1 + 1) + 1 := by simp [nxM, hn]
    have e1 := hB.ege
    have e2 := hB.elt
    rw [e]
    exact ⟨by omega, by omega, hok1, h3, ho, hl, hr.2, .inr (.inl ⟨hn, hB⟩)⟩
  · have hl := head_lt hc.1 ho
    have e : nxM t i = endJ t (endJ t ((headM t i).1 + 1) + 1 + 1) + 1 := by simp [nxM, hn]
    have e1 := hB.ege
    have e2 := hB.elt
    have e3 := hB2.ege
    have e4 := hB2.elt
    rw [e]
    exact ⟨by omega, by omega, hok1, h3, ho, hl, hr.2, .inr (.inr ⟨hn, hB, hB2⟩)⟩

theorem sem_fuel (t : ByteArray) : ∀ (m i : Nat), t.size - i ≤ m → i ≤ t.size → okJ t i = true → ∀ f g p, t.size - i < f → t.size - i < g → semM t f i p = semM t g i p := by
  intro m
  induction m with
  | zero =>
    intro i hm hi hok f g p hf hg
    obtain ⟨f', rfl⟩ : ∃ f', f = f' + 1 := ⟨f - 1, by omega⟩
    obtain ⟨g', rfl⟩ : ∃ g', g = g' + 1 := ⟨g - 1, by omega⟩
    rw [sem_eq, sem_eq, if_neg (by omega), if_neg (by omega)]
  | succ m ih =>
    intro i hm hi hok f g p hf hg
    obtain ⟨f', rfl⟩ : ∃ f', f = f' + 1 := ⟨f - 1, by omega⟩
    obtain ⟨g', rfl⟩ : ∃ g', g = g' + 1 := ⟨g - 1, by omega⟩
    rw [sem_eq, sem_eq]
    by_cases hc : i < t.size ∧ byt t i ≠ 41
    · rw [if_pos hc, if_pos hc]
      obtain ⟨h1, h2, h3, h4, ho, hl, hr, hcase⟩ := step_places hi hok hc
      have e : stpM t (semM t f') i p = stpM t (semM t g') i p := by
        unfold stpM
        rcases hcase with hn | ⟨hn, hB⟩ | ⟨hn, hB, hB2⟩
        · rw [if_pos hn, if_pos hn]
        · have q := hB.jlt
          have n0 : (headM t i).2.1 ≠ 0 := by omega
          rw [if_neg n0, if_neg n0, if_pos hn, if_pos hn]
          rw [ih ((headM t i).1 + 1) (by omega) (by omega) hB.ok f' g' _ (by omega) (by omega)]
        · have q := hB.jlt
          have q1 := hB.ege
          have q2 := hB2.jlt
          have n0 : (headM t i).2.1 ≠ 0 := by omega
          have n1 : (headM t i).2.1 ≠ 1 := by omega
          rw [if_neg n0, if_neg n0, if_neg n1, if_neg n1]
          rw [ih ((headM t i).1 + 1) (by omega) (by omega) hB.ok f' g' _ (by omega) (by omega)]
          rw [ih (endJ t ((headM t i).1 + 1) + 1 + 1) (by omega) (by omega) hB2.ok f' g' _ (by omega) (by omega)]
      rw [e]
      exact ih (nxM t i) (by omega) h2 h3 f' g' _ (by omega) (by omega)
    · rw [if_neg hc, if_neg hc]

def semF (t : ByteArray) (i : Nat) (p : Pu) : Pu := semM t (t.size + 1) i p

theorem semF_stop {t : ByteArray} {i : Nat} {p : Pu} (hc : ¬ (i < t.size ∧ byt t i ≠ 41)) : semF t i p = p := by
  unfold semF
  rw [sem_eq, if_neg hc]
theorem semF_step {t : ByteArray} {i : Nat} {p : Pu} (hi : i ≤ t.size) (hok : okJ t i = true) (hc : i < t.size ∧ byt t i ≠ 41) : semF t i p = semF t (nxM t i) (stpM t (semF t) i p) := by
  obtain ⟨h1, h2, h3, h4, ho, hl, hr, hcase⟩ := step_places hi hok hc
  unfold semF
  rw [sem_fuel t t.size i (by omega) hi hok (t.size + 1) (t.size + 1 + 1) p (by omega) (by omega), sem_eq, if_pos hc]

/-- A step of a policy keeps. -/
theorem sem_keeps {M : Int} {o0 : List Int} {t : ByteArray} : ∀ (f i : Nat) (p : Pu), i ≤ t.size → okJ t i = true → Keeps M o0 p → Keeps M o0 (semM t f i p)
  | 0, i, p, hi, hok, h => h
  | f + 1, i, p, hi, hok, h => by
    rw [sem_eq]
    by_cases hc : i < t.size ∧ byt t i ≠ 41
    · rw [if_pos hc]
      obtain ⟨h1, h2, h3, h4, ho, hl, hr, hcase⟩ := step_places hi hok hc
      have hso := st_ok ho
      refine sem_keeps f _ _ h2 h3 ?_
      unfold stpM
      rcases hcase with hn | ⟨hn, hB⟩ | ⟨hn, hB, hB2⟩
      · rw [if_pos hn]
        exact do_keeps h hso
      · have q := hB.jlt
        have n0 : (headM t i).2.1 ≠ 0 := by omega
        rw [if_neg n0, if_pos hn]
        have hk : (Split.stM t i).kind = 72 := by
          rcases head_kind n0 ho with ⟨_, hh⟩ | ⟨hh, _⟩
          · exact hh
          · omega
        exact good_back (sem_keeps f _ _ (by omega) hB.ok (good_hold h _ hso.a0 (hso.h hk)))
      · have q := hB.jlt
        have q2 := hB2.jlt
        have n0 : (headM t i).2.1 ≠ 0 := by omega
        have n1 : (headM t i).2.1 ≠ 1 := by omega
        rw [if_neg n0, if_neg n1]
        split
        · exact sem_keeps f _ _ (by omega) hB2.ok h
        · exact sem_keeps f _ _ (by omega) hB.ok h
    · rw [if_neg hc]; exact h
theorem stp_keeps {M : Int} {o0 : List Int} {t : ByteArray} {i : Nat} {p : Pu} (hi : i ≤ t.size) (hok : okJ t i = true) (hc : i < t.size ∧ byt t i ≠ 41) (h : Keeps M o0 p) : Keeps M o0 (stpM t (semF t) i p) := by
  obtain ⟨h1, h2, h3, h4, ho, hl, hr, hcase⟩ := step_places hi hok hc
  have hso := st_ok ho
  unfold stpM
  rcases hcase with hn | ⟨hn, hB⟩ | ⟨hn, hB, hB2⟩
  · rw [if_pos hn]
    exact do_keeps h hso
  · have q := hB.jlt
    have n0 : (headM t i).2.1 ≠ 0 := by omega
    rw [if_neg n0, if_pos hn]
    have hk : (Split.stM t i).kind = 72 := by
      rcases head_kind n0 ho with ⟨_, hh⟩ | ⟨hh, _⟩
      · exact hh
      · omega
    exact good_back (sem_keeps _ _ _ (by omega) hB.ok (good_hold h _ hso.a0 (hso.h hk)))
  · have q := hB.jlt
    have q2 := hB2.jlt
    have n0 : (headM t i).2.1 ≠ 0 := by omega
    have n1 : (headM t i).2.1 ≠ 1 := by omega
    rw [if_neg n0, if_neg n1]
    split
    · exact sem_keeps _ _ _ (by omega) hB2.ok h
    · exact sem_keeps _ _ _ (by omega) hB.ok h
end Go.Proofs.Ytbpolcnjojlkjab
