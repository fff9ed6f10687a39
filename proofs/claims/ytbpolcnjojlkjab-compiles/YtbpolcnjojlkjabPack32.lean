/- HeldC -/
import Derived.Test.YtbpolcnjojlkjabPack8

/- Plain: the code of a policy has heights. -/
namespace Go.Proofs.Ytbpolcnjojlkjab.Split
set_option linter.unusedVariables false
set_option linter.unusedSimpArgs false

/-- Code that leaves the height as it was, wherever it stands. -/
def Hgt (x : Int) (B : List St) : Prop :=
  ∀ (ss : List St) (o f : Nat) (h : List Int), (∀ j, j < B.length → ss[o + j]? = B[j]?) → o + B.length + f = ss.length → h.length = ss.length + 1 →
    h.getD o 0 = x → (∀ j, o < j → j < o + B.length → h.getD j 0 = -1) → (h.getD (o + B.length) 0 = -1 ∨ h.getD (o + B.length) 0 = x) →
    ∃ h' : List Int, h'.length = h.length ∧ heldGo ss (B.length + f) o h = heldGo ss f (o + B.length) h' ∧ h'.getD (o + B.length) 0 = x ∧ ∀ j, o + B.length < j → h'.getD j 0 = h.getD j 0

theorem hgt_nil (x : Int) : Hgt x [] := by
  intro ss o f h _ _ _ h1 _ _
  exact ⟨h, rfl, by simp, by simpa using h1, fun j _ => rfl⟩

theorem hgt_app {x : Int} {A B : List St} (hA : Hgt x A) (hB : Hgt x B) : Hgt x (A ++ B) := by
  intro ss o f h hs hn hl h1 h2 h3
  rw [List.length_append] at hn h2 h3
  have hAe : h.getD (o + A.length) 0 = -1 ∨ h.getD (o + A.length) 0 = x := by
    by_cases ha : A.length = 0
    · right; rw [ha]; exact h1
    · by_cases hb : B.length = 0
      · rw [hb] at h3; exact h3
      · left; exact h2 _ (by omega) (by omega)
  obtain ⟨h', l', e', x', r'⟩ := hA ss o (B.length + f) h (fun j hj => by rw [hs j (by rw [List.length_append]; omega), List.getElem?_append_left hj]) (by omega) hl h1 (fun j a b => h2 j a (by omega)) hAe
  obtain ⟨h'', l'', e'', x'', r''⟩ := hB ss (o + A.length) f h' (fun j hj => by
      have := hs (A.length + j) (by rw [List.length_append]; omega)
      rw [List.getElem?_append_right (by omega), show A.length + j - A.length = j by omega] at this
      rw [← this, Nat.add_assoc]) (by omega) (by omega) x' (fun j a b => by rw [r' j a]; exact h2 j (by omega) (by omega)) (by
      by_cases hb : B.length = 0
      · right; rw [hb, Nat.add_zero]; exact x'
      · rw [r' _ (by omega), Nat.add_assoc]; exact h3)
  refine ⟨h'', by omega, ?_, ?_, fun j hj => ?_⟩
  · rw [List.length_append, Nat.add_assoc, e', e'', Nat.add_assoc]
  · rw [List.length_append, ← Nat.add_assoc]; exact x''
  · rw [List.length_append] at hj
    rw [r'' j (by omega), r' j (by omega)]

/-- One step of the look. -/
theorem go_step {ss : List St} {o f : Nat} {h : List Int} {s : St} {x : Int} (hs : ss[o]? = some s) (hx : h.getD o 0 = x) (h0 : 0 ≤ x) (h1 : 0 ≤ x + growM s.kind) (h5 : x + growM s.kind ≤ 5) : heldGo ss (f + 1) o h = heldGo ss f (o + 1) (onM h o s (x + growM s.kind)) := by
  simp only [heldGo, hs, hx]
  rw [if_neg (by omega), if_neg (by omega)]

theorem join_self {o x : Int} (h : o = -1 ∨ o = x) : joinM o x = x := by
  unfold joinM; rw [if_pos h]

theorem hgt_plain {x : Int} {s : St} (h72 : s.kind ≠ 72) (h69 : s.kind ≠ 69) (h74 : s.kind ≠ 74) (h73 : s.kind ≠ 73) (hx0 : 0 ≤ x) (hx5 : x ≤ 5) : Hgt x [s] := by
  intro ss o f h hs hn hl h1 h2 h3
  have hg : growM s.kind = 0 := by unfold growM; rw [if_neg h72, if_neg h69]
  have hs0 : ss[o]? = some s := by simpa using hs 0 (by simp)
  simp only [List.length_cons, List.length_nil, Nat.zero_add] at hn h2 h3 ⊢
  have hon : onM h o s (x + growM s.kind) = leadM h (o + 1) x := by
    unfold onM onA
    rw [if_neg (by rintro (e | e); exact h74 e; exact h73 e), if_neg h74, hg, Int.add_zero]
  refine ⟨leadM h (o + 1) x, lead_len _ _ _, ?_, ?_, fun j hj => ?_⟩
  · rw [Nat.add_comm 1 f, go_step hs0 h1 hx0 (by omega) (by omega), hon]
  · rw [lead_get x (by omega), if_pos rfl, join_self h3]
  · rw [lead_get x (by omega), if_neg (by omega)]

theorem hgt_H {x : Int} {s : St} {B : List St} (h72 : s.kind = 72) (hB : Hgt (x + 1) B) (hx0 : 0 ≤ x) (hx5 : x + 1 ≤ 5) : Hgt x (s :: (B ++ [stE])) := by
  intro ss o f h hs hn hl h1 h2 h3
  have hlen : (s :: (B ++ [stE])).length = B.length + 2 := by simp
  rw [hlen] at hn h2 h3
  have hg : growM s.kind = 1 := by unfold growM; rw [if_pos h72]
  have hs0 : ss[o]? = some s := by simpa using hs 0 (by simp)
  have hon : onM h o s (x + growM s.kind) = leadM h (o + 1) (x + 1) := by
    unfold onM onA
    rw [if_neg (by rw [h72]; decide), if_neg (by rw [h72]; decide), hg]
  have hk1 := lead_get (h := h) (p := o + 1) (x + 1) (by omega)
  have e1 : (leadM h (o + 1) (x + 1)).getD (o + 1) 0 = x + 1 := by
    rw [hk1, if_pos rfl]
    exact join_self (.inl (h2 _ (by omega) (by omega)))
  have e2 : ∀ j, o + 1 < j → (leadM h (o + 1) (x + 1)).getD j 0 = h.getD j 0 := fun j hj => by rw [hk1, if_neg (by omega)]
  have l1 := lead_len h (o + 1) (x + 1)
  obtain ⟨g, lg, eg, xg, rg⟩ := hB ss (o + 1) (1 + f) (leadM h (o + 1) (x + 1)) (fun j hj => by
      have := hs (j + 1) (by rw [hlen]; omega)
      rw [List.getElem?_cons_succ, List.getElem?_append_left hj] at this
      rw [← this]; congr 1; omega) (by omega) (by omega) e1 (fun j a b => by rw [e2 j a]; exact h2 j (by omega) (by omega)) (by
      by_cases hb : B.length = 0
      · right; rw [hb]; exact e1
      · left; rw [e2 _ (by omega)]; exact h2 _ (by omega) (by omega))
  have hsE : ss[o + 1 + B.length]? = some stE := by
    have := hs (B.length + 1) (by rw [hlen]; omega)
    rw [List.getElem?_cons_succ, List.getElem?_append_right (Nat.le_refl _), Nat.sub_self] at this
    rw [show o + 1 + B.length = o + (B.length + 1) by omega, this]
    rfl
  have hgE : growM stE.kind = -1 := rfl
  have honE : onM g (o + 1 + B.length) stE (x + 1 + growM stE.kind) = leadM g (o + 1 + B.length + 1) x := by
    rw [hgE, show x + 1 + -1 = x by omega]
    rfl
  refine ⟨leadM g (o + 1 + B.length + 1) x, by rw [lead_len]; omega, ?_, ?_, fun j hj => ?_⟩
  · rw [hlen, show B.length + 2 + f = (B.length + (1 + f)) + 1 by omega, go_step hs0 h1 hx0 (by omega) (by omega), hon, eg, Nat.add_comm 1 f, go_step hsE xg (by omega) (by rw [hgE]; omega) (by rw [hgE]; omega), honE]
    congr 1
    omega
  · rw [hlen, show o + (B.length + 2) = o + 1 + B.length + 1 by omega, lead_get x (by omega), if_pos rfl, rg _ (by omega), e2 _ (by omega)]
    exact join_self (by rw [show o + 1 + B.length + 1 = o + (B.length + 2) by omega]; exact h3)
  · rw [hlen] at hj
    rw [lead_get x (by omega), if_neg (by omega), rg _ (by omega), e2 _ (by omega)]

theorem hgt_I {x : Int} {s : St} {B C : List St} (h73 : s.kind = 73) (hlv : s.leave = (B.length : Int) + 1) (hB : Hgt x B) (hC : Hgt x C) (hx0 : 0 ≤ x) (hx5 : x ≤ 5) : Hgt x (s :: (B ++ stJ C.length :: C)) := by
  intro ss o f h hs hn hl h1 h2 h3
  have hlen : (s :: (B ++ stJ C.length :: C)).length = B.length + C.length + 2 := by simp; omega
  rw [hlen] at hn h2 h3
  have hg : growM s.kind = 0 := by unfold growM; rw [if_neg (by rw [h73]; decide), if_neg (by rw [h73]; decide)]
  have hs0 : ss[o]? = some s := by simpa using hs 0 (by simp)
  have hlt : s.leave.toNat = B.length + 1 := by omega
  have hon : onM h o s (x + growM s.kind) = leadM (leadM h (o + 1) x) (o + 1 + (B.length + 1)) x := by
    unfold onM onA
    rw [if_pos (.inr h73), if_neg (by rw [h73]; decide), hg, Int.add_zero, hlt]
  obtain ⟨g1, hg1⟩ : ∃ g, leadM (leadM h (o + 1) x) (o + 1 + (B.length + 1)) x = g := ⟨_, rfl⟩
  have hk1 := lead_get (h := h) (p := o + 1) x (by omega)
  have hk2 := lead_get (h := leadM h (o + 1) x) (p := o + 1 + (B.length + 1)) x (by rw [lead_len]; omega)
  have l1 : g1.length = h.length := by rw [← hg1, lead_len, lead_len]
  rw [hg1] at hk2 hon
  have e1 : g1.getD (o + 1) 0 = x := by
    rw [hk2, if_neg (by omega), hk1, if_pos rfl]
    exact join_self (.inl (h2 _ (by omega) (by omega)))
  have e2 : g1.getD (o + 1 + (B.length + 1)) 0 = x := by
    rw [hk2, if_pos rfl, hk1, if_neg (by omega)]
    apply join_self
    by_cases hc : C.length = 0
    · rw [show o + 1 + (B.length + 1) = o + (B.length + C.length + 2) by omega]; exact h3
    · left; exact h2 _ (by omega) (by omega)
  have e3 : ∀ j, o + 1 < j → j ≠ o + 1 + (B.length + 1) → g1.getD j 0 = h.getD j 0 := fun j hj hne => by
    rw [hk2, if_neg (by omega), hk1, if_neg (by omega)]
  obtain ⟨g2, l2, q2, x2, r2⟩ := hB ss (o + 1) (1 + C.length + f) g1 (fun j hj => by
      have := hs (j + 1) (by rw [hlen]; omega)
      rw [List.getElem?_cons_succ, List.getElem?_append_left hj] at this
      rw [← this]; congr 1; omega) (by omega) (by omega) e1 (fun j a b => by rw [e3 j a (by omega)]; exact h2 j (by omega) (by omega)) (by
      by_cases hb : B.length = 0
      · right; rw [hb]; exact e1
      · left; rw [e3 _ (by omega) (by omega)]; exact h2 _ (by omega) (by omega))
  have hsJ : ss[o + 1 + B.length]? = some (stJ C.length) := by
    have := hs (B.length + 1) (by rw [hlen]; omega)
    rw [List.getElem?_cons_succ, List.getElem?_append_right (Nat.le_refl _), Nat.sub_self] at this
    rw [show o + 1 + B.length = o + (B.length + 1) by omega, this]
    rfl
  have hgJ : growM (stJ C.length).kind = 0 := rfl
  have honJ : onM g2 (o + 1 + B.length) (stJ C.length) (x + growM (stJ C.length).kind) = leadM g2 (o + 1 + B.length + 1 + C.length) x := by
    rw [hgJ, Int.add_zero]
    rfl
  have hk3 := lead_get (h := g2) (p := o + 1 + B.length + 1 + C.length) x (by omega)
  have e4 : (leadM g2 (o + 1 + B.length + 1 + C.length) x).getD (o + 1 + B.length + 1) 0 = x := by
    rw [hk3]
    by_cases hc : C.length = 0
    · rw [if_pos (by omega), hc, Nat.add_zero, r2 _ (by omega)]
      rw [show o + 1 + B.length + 1 = o + 1 + (B.length + 1) by omega, e2]
      exact join_self (.inr rfl)
    · rw [if_neg (by omega), r2 _ (by omega)]
      rw [show o + 1 + B.length + 1 = o + 1 + (B.length + 1) by omega]
      exact e2
  have e5 : (leadM g2 (o + 1 + B.length + 1 + C.length) x).getD (o + 1 + B.length + 1 + C.length) 0 = x := by
    rw [hk3, if_pos rfl, r2 _ (by omega)]
    by_cases hc : C.length = 0
    · rw [hc, Nat.add_zero, show o + 1 + B.length + 1 = o + 1 + (B.length + 1) by omega, e2]
      exact join_self (.inr rfl)
    · rw [e3 _ (by omega) (by omega)]
      apply join_self
      rw [show o + 1 + B.length + 1 + C.length = o + (B.length + C.length + 2) by omega]; exact h3
  obtain ⟨g4, l4, q4, x4, r4⟩ := hC ss (o + 1 + B.length + 1) f (leadM g2 (o + 1 + B.length + 1 + C.length) x) (fun j hj => by
      have := hs (B.length + 1 + (j + 1)) (by rw [hlen]; omega)
      rw [show B.length + 1 + (j + 1) = (B.length + (j + 1)) + 1 by omega, List.getElem?_cons_succ, List.getElem?_append_right (by omega), show B.length + (j + 1) - B.length = j + 1 by omega, List.getElem?_cons_succ] at this
      rw [← this]; congr 1; omega) (by omega) (by rw [lead_len]; omega) e4 (fun j a b => by
        rw [hk3, if_neg (by omega), r2 j (by omega), e3 j (by omega) (by omega)]; exact h2 j (by omega) (by omega)) (.inr e5)
  refine ⟨g4, by rw [l4, lead_len]; omega, ?_, ?_, fun j hj => ?_⟩
  · rw [hlen, show B.length + C.length + 2 + f = (B.length + (1 + C.length + f)) + 1 by omega, go_step hs0 h1 hx0 (by omega) (by omega), hon, q2, show 1 + C.length + f = (C.length + f) + 1 by omega, go_step hsJ x2 hx0 (by rw [hgJ]; omega) (by rw [hgJ]; omega), honJ, q4]
    congr 1
    omega
  · rw [hlen, show o + (B.length + C.length + 2) = o + 1 + B.length + 1 + C.length by omega]; exact x4
  · rw [hlen] at hj
    rw [r4 j (by omega), hk3, if_neg (by omega), r2 j (by omega), e3 j (by omega) (by omega)]

/-- Of the whole. -/
theorem hgt_all {ss : List St} (h : Hgt 0 ss) : heldM ss = -1 := by
  unfold heldM
  have hi : ∀ j, 0 < j → j < ss.length + 1 → (hInit ss.length).getD j 0 = -1 := fun j h1 h2 => by
    obtain ⟨k, rfl⟩ : ∃ k, j = k + 1 := ⟨j - 1, by omega⟩
    unfold hInit
    rw [List.getD_cons_succ, List.getD_eq_getElem?_getD, List.getElem?_replicate, if_pos (by omega)]
    rfl
  obtain ⟨h', l', e', x', _⟩ := h ss 0 0 (hInit ss.length) (fun j _ => by rw [Nat.zero_add]) (by omega) (by simp [hInit]) rfl (fun j a b => hi j a (by omega)) (by
    by_cases hz : ss.length = 0
    · right; rw [hz]; rfl
    · left; exact hi _ (by omega) (by omega))
  rw [Nat.add_zero, Nat.zero_add] at e'
  rw [e']
  rw [Nat.zero_add] at x'
  unfold heldGo
  rw [if_pos x']
end Go.Proofs.Ytbpolcnjojlkjab.Split
