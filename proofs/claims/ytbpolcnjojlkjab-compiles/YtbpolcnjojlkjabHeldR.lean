/- Plain: what is held, step by step of a run. -/
import Derived.Test.YtbpolcnjojlkjabHeldM
namespace Go.Proofs.Ytbpolcnjojlkjab.Split
set_option linter.unusedVariables false
set_option linter.unusedSimpArgs false

section
variable {ss : List St} {n : Nat} (hn : ss.length = n) (hin : ∀ (i : Nat) (h : i < ss.length), InCode n i ss[i])
include hn hin

/-- The look goes on to a place that has come to be. -/
theorem run_to : ∀ (d i : Nat) (h : List Int) (x : Int), i + d ≤ n → h.length = n + 1 → heldGo ss (n - i) i h = -1 → h.getD (i + d) 0 = x → 0 ≤ x → ∃ h' : List Int, h'.length = n + 1 ∧ heldGo ss (n - (i + d)) (i + d) h' = -1 ∧ h'.getD (i + d) 0 = x
  | 0, i, h, x, hi, hl, hg, hx, h0 => ⟨h, hl, hg, hx⟩
  | d + 1, i, h, x, hi, hl, hg, hx, h0 => by
    have hil : i < ss.length := by omega
    have hst := sticky hn hin
    obtain ⟨f, hf⟩ : ∃ f, n - i = f + 1 := ⟨n - i - 1, by omega⟩
    have hf2 : n - (i + 1) = f := by omega
    rw [hf] at hg
    unfold heldGo at hg
    rw [List.getElem?_eq_getElem hil] at hg
    dsimp only at hg
    rw [show i + (d + 1) = (i + 1) + d by omega] at hx hi ⊢
    by_cases h1 : h.getD i 0 = -1
    · rw [if_pos h1] at hg
      exact run_to d (i + 1) h x hi hl (by rw [hf2]; exact hg) hx h0
    · rw [if_neg h1] at hg
      by_cases hc : h.getD i 0 = -2 ∨ h.getD i 0 + growM ss[i].kind < 0 ∨ 5 < h.getD i 0 + growM ss[i].kind
      · rw [if_pos hc] at hg; omega
      · rw [if_neg hc] at hg
        have hk := on_keep (s := ss[i]) (h.getD i 0 + growM ss[i].kind) hl (show i < n by omega) (hin i hil) (j := i + 1 + d) (by omega)
        rcases hk with hk | hk
        · exact run_to d (i + 1) (onM h i ss[i] (h.getD i 0 + growM ss[i].kind)) x hi ((on_len _ _ _ _).trans hl) (by rw [hf2]; exact hg) (hk.trans hx) h0
        · exact absurd hg (hst f (i + 1) _ (i + 1 + d) (by omega) (by rw [on_len]; exact hl) (by omega) (by omega) hk)
end

/-- A run that has come to a place holds what the place's height says. -/
def Well (ss : List St) (pc : Nat) (p : Pu) : Prop := pc ≤ ss.length ∧ ∃ h : List Int, h.length = ss.length + 1 ∧ heldGo ss (ss.length - pc) pc h = -1 ∧ h.getD pc 0 = p.held.length

theorem well_start {ss : List St} {p : Pu} (hM : heldM ss = -1) (hp : p.held = []) : Well ss 0 p :=
  ⟨Nat.zero_le _, hInit ss.length, by simp [hInit], hM, by simp [hInit, hp]⟩

theorem well_step {ss : List St} {pc : Nat} {p : Pu} (hin : ∀ (i : Nat) (h : i < ss.length), InCode ss.length i ss[i]) (hW : Well ss pc p) (hlt : pc < ss.length) :
    p.held.length ≤ 6 ∧ (ss[pc].kind = 69 → p.held ≠ []) ∧ Well ss (pc + 1 + skipM ss[pc] p) (doM ss[pc] p) := by
  obtain ⟨_, h, hl, hg, hx⟩ := hW
  obtain ⟨f, hf⟩ : ∃ f, ss.length - pc = f + 1 := ⟨ss.length - pc - 1, by omega⟩
  have hf2 : ss.length - (pc + 1) = f := by omega
  rw [hf] at hg
  unfold heldGo at hg
  rw [List.getElem?_eq_getElem hlt] at hg
  dsimp only at hg
  rw [if_neg (by omega)] at hg
  by_cases hc : h.getD pc 0 = -2 ∨ h.getD pc 0 + growM ss[pc].kind < 0 ∨ 5 < h.getD pc 0 + growM ss[pc].kind
  · rw [if_pos hc] at hg; omega
  · rw [if_neg hc] at hg
    have hgr : -1 ≤ growM ss[pc].kind := by unfold growM; split; omega; split <;> omega
    have hd := do_len ss[pc] p (by omega)
    refine ⟨by omega, fun h69 he => ?_, ?_⟩
    · have : growM ss[pc].kind = -1 := by rw [h69]; rfl
      have hz : (p.held.length : Int) = 0 := by rw [he]; rfl
      omega
    · have hsk : pc + 1 + skipM ss[pc] p ≤ ss.length := by
        have := hin pc hlt
        unfold InCode at this
        unfold skipM
        split
        · rename_i hk; exact this (.inl hk)
        split
        · rename_i hk
          have := this (.inr hk)
          split <;> omega
        · omega
      have ha := on_at (s := ss[pc]) (h.getD pc 0 + growM ss[pc].kind) p hl hlt (hin pc hlt)
      have ha' : (onM h pc ss[pc] (h.getD pc 0 + growM ss[pc].kind)).getD (pc + 1 + skipM ss[pc] p) 0 = h.getD pc 0 + growM ss[pc].kind := by
        rcases ha with ha | ha
        · exact ha
        · exact absurd hg (sticky rfl hin f (pc + 1) _ _ (by omega) (by rw [on_len]; exact hl) (by omega) hsk ha)
      obtain ⟨h', l', g', x'⟩ := run_to rfl hin (skipM ss[pc] p) (pc + 1) (onM h pc ss[pc] (h.getD pc 0 + growM ss[pc].kind)) _ hsk ((on_len _ _ _ _).trans hl) (by rw [hf2]; exact hg) ha' (by omega)
      exact ⟨hsk, h', l', g', by rw [x', hx, hd]⟩
end Go.Proofs.Ytbpolcnjojlkjab.Split
