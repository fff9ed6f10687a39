/- Plain: what a policy pays does not ask what is paid already, nor what is held. -/
import Derived.Test.YtbpolcnjojlkjaaSemF
namespace Go.Proofs.Ytbpolcnjojlkjaa
open Split
set_option linter.unusedVariables false
set_option linter.unusedSimpArgs false

/-- The same money and the same owed; paid apart by d. -/
structure Peer (d : List Int) (p q : Pu) : Prop where
  hand : p.hand = q.hand
  owed : p.owed = q.owed
  lp : p.paid.length = 8
  lq : q.paid.length = 8
  paid : ∀ i, i < 8 → p.paid.getD i 0 = q.paid.getD i 0 + d.getD i 0

theorem getD_set' (l : List Int) (i j : Nat) (x : Int) (hj : j < l.length) : (l.set i x).getD j 0 = if i = j then x else l.getD j 0 := by
  rw [List.getD_eq_getElem?_getD, List.getElem?_set]
  by_cases h : i = j
  · subst h; simp [hj]
  · simp [h, List.getD_eq_getElem?_getD]

variable {d : List Int} {p q : Pu}
theorem Peer.pay (h : Peer d p q) (i : Nat) (most : Int) : Peer d (payM p i most) (payM q i most) := by
  have es : paySum p i most = paySum q i most := by unfold paySum; rw [h.hand, h.owed]
  refine ⟨by simp only [payM]; rw [es, h.hand], by simp only [payM]; rw [es, h.owed], by simp [payM, h.lp], by simp [payM, h.lq], fun j hj => ?_⟩
  simp only [payM]
  rw [getD_set' _ _ _ _ (by rw [h.lp]; exact hj), getD_set' _ _ _ _ (by rw [h.lq]; exact hj), es]
  have hpj := h.paid j hj
  by_cases hij : i = j
  · subst hij
    rw [if_pos rfl, if_pos rfl]
    omega
  · rw [if_neg hij, if_neg hij]
    exact hpj
theorem Peer.am (h : Peer d p q) (am : List Bool) : ∀ i, amTo p am i = amTo q am i
  | 0 => rfl
  | i + 1 => by unfold amTo; rw [h.am am i, h.owed]
theorem Peer.propTo (h : Peer d p q) (am : List Bool) (m t : Int) : ∀ i, Peer d (Split.propTo p am m t i).p (Split.propTo q am m t i).p ∧ (Split.propTo p am m t i).f = (Split.propTo q am m t i).f
  | 0 => ⟨h, rfl⟩
  | i + 1 => by
    obtain ⟨h1, h2⟩ := h.propTo am m t i
    simp only [Split.propTo]
    split
    · split
      · exact ⟨h1.pay i _, h2⟩
      · rw [h1.owed, h2]
        exact ⟨h1.pay i _, rfl⟩
    · exact ⟨h1, h2⟩
theorem Peer.left : ∀ (k : Nat) (p q : Pu) (f : List Int), Peer d p q → Peer d (leftM k p f) (leftM k q f)
  | 0, p, q, f, h => h
  | k + 1, p, q, f, h => by
    simp only [leftM]
    rw [h.hand]
    split
    · exact Peer.left k _ _ _ (h.pay _ _)
    · exact h
theorem Peer.prop (h : Peer d p q) (am : List Bool) : Peer d (propM p am) (propM q am) := by
  unfold propM
  rw [h.am am 8, h.hand]
  obtain ⟨h1, h2⟩ := h.propTo am q.hand (amTo q am 8) 8
  split
  · rw [h2]
    exact Peer.left 8 _ _ _ h1
  · exact h1

theorem kind0 {t : ByteArray} {i : Nat} (hn : (headM t i).2.1 = 0) (ho : (headM t i).2.2 = true) : (Split.stM t i).kind = 80 ∨ (Split.stM t i).kind = 67 ∨ (Split.stM t i).kind = 82 := by
  by_cases h80 : byt t i = 80
  · left; simp [Split.stM, h80]
  by_cases h67 : byt t i = 67 ∨ byt t i = 73
  · rcases h67 with h | h
    · right; left; simp [Split.stM, h]
    · exfalso
      have hh : headM t i = if bucM t (i + 1) = i + 2 then (digM t (i + 2) 4, 2, decide (digM t (i + 2) 4 = i + 6)) else (bucM t (i + 1), 0, false) := by
        simp [headM, h]
      rw [hh] at hn ho
      split at hn
      · simp at hn
      · rename_i hx; rw [if_neg hx] at ho; simp at ho
  by_cases h82 : byt t i = 82
  · right; right; simp [Split.stM, h82]
  exfalso
  by_cases h72 : byt t i = 72
  · have hh : headM t i = if digM t (i + 1) 2 = i + 3 ∧ byt t (i + 1) = 48 ∧ byt t (i + 2) = 48 then (i + 2, 1, false) else (digM t (i + 1) 2, 1, decide (digM t (i + 1) 2 = i + 3)) := by
      simp only [headM, if_neg h80, if_neg h67, if_neg h82, if_pos h72]
    rw [hh] at hn
    split at hn <;> simp at hn
  · have : headM t i = (i, 0, false) := by simp only [headM, if_neg h80, if_neg h67, if_neg h82, if_neg h72]
    rw [this] at ho
    simp at ho

theorem back_of {P : Pu} {l : List Int} {x : Int} (h : P.held = l ++ [x]) : backM P = ⟨P.hand + x, l, P.owed, P.paid⟩ := by simp [backM, h]

theorem sem_like {t : ByteArray} : ∀ (f i : Nat) (p q : Pu), i ≤ t.size → okJ t i = true → Peer d p q → Peer d (semM t f i p) (semM t f i q)
  | 0, i, p, q, hi, hok, h => h
  | f + 1, i, p, q, hi, hok, h => by
    rw [sem_eq, sem_eq]
    by_cases hc : i < t.size ∧ byt t i ≠ 41
    · rw [if_pos hc, if_pos hc]
      obtain ⟨h1, h2, h3, h4, ho, hl, hr, hcase⟩ := step_places hi hok hc
      refine sem_like f _ _ _ h2 h3 ?_
      unfold stpM
      rcases hcase with hn | ⟨hn, hB⟩ | ⟨hn, hB, hB2⟩
      · rw [if_pos hn, if_pos hn]
        rcases kind0 hn ho with hk | hk | hk
        · simp only [doM, hk, if_true]; exact h.pay _ _
        · simp only [doM, hk]; exact h.pay _ _
        · simp only [doM, hk]; exact h.prop _
      · have q1 := hB.jlt
        have n0 : (headM t i).2.1 ≠ 0 := by omega
        rw [if_neg n0, if_neg n0, if_pos hn, if_pos hn]
        have hh : Peer d (holdM p (Split.stM t i).amount) (holdM q (Split.stM t i).amount) := by
          refine ⟨?_, h.owed, h.lp, h.lq, h.paid⟩
          simp only [holdM]
          rw [h.hand]
        have hL := sem_like f _ _ _ (by omega : (headM t i).1 + 1 ≤ t.size) hB.ok hh
        have e1 : (semM t f ((headM t i).1 + 1) (holdM p (Split.stM t i).amount)).held = p.held ++ [p.hand - p.hand * (Split.stM t i).amount / 100] := sem_held t f _ _ (by omega) hB.ok
        have e2 : (semM t f ((headM t i).1 + 1) (holdM q (Split.stM t i).amount)).held = q.held ++ [q.hand - q.hand * (Split.stM t i).amount / 100] := sem_held t f _ _ (by omega) hB.ok
        rw [back_of e1, back_of e2]
        refine ⟨?_, hL.owed, hL.lp, hL.lq, hL.paid⟩
        show _ + _ = _ + _
        rw [hL.hand, h.hand]
      · have q1 := hB.jlt
        have q2 := hB2.jlt
        have n0 : (headM t i).2.1 ≠ 0 := by omega
        have n1 : (headM t i).2.1 ≠ 1 := by omega
        rw [if_neg n0, if_neg n0, if_neg n1, if_neg n1, h.owed]
        split
        · exact sem_like f _ _ _ (by omega) hB2.ok h
        · exact sem_like f _ _ _ (by omega) hB.ok h
    · rw [if_neg hc, if_neg hc]; exact h
end Go.Proofs.Ytbpolcnjojlkjaa
