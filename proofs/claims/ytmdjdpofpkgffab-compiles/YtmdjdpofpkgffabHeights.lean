/- Heights: HeldM, HeldC, HeldR -/
import Derived.Test.YtmdjdpofpkgffabPaysM

/- Plain: the heights of code; that what is held is gone at its end. -/
namespace Go.Proofs.Ytmdjdpofpkgffab.Split
set_option linter.unusedVariables false
set_option linter.unusedSimpArgs false

def joinM (old x : Int) : Int := if old = -1 ∨ old = x then x else -2
def leadM (h : List Int) (p : Nat) (x : Int) : List Int := h.set p (joinM (h.getD p 0) x)
def growM (k : Int) : Int := if k = 72 then 1 else if k = 69 then -1 else 0
def onA (h : List Int) (i : Nat) (s : St) (x : Int) : List Int := if s.kind = 74 then h else leadM h (i + 1) x
def onM (h : List Int) (i : Nat) (s : St) (x : Int) : List Int := if s.kind = 74 ∨ s.kind = 73 then leadM (onA h i s x) (i + 1 + s.leave.toNat) x else onA h i s x

/-- From place i on, f places to go: the place that has ErrHeld; -1: none. -/
def heldGo (ss : List St) : Nat → Nat → List Int → Int
  | 0, i, h => if h.getD i 0 = 0 then -1 else i
  | f + 1, i, h => match ss[i]? with
    | none => -1
    | some s =>
      if h.getD i 0 = -1 then heldGo ss f (i + 1) h
      else if h.getD i 0 = -2 ∨ h.getD i 0 + growM s.kind < 0 ∨ 5 < h.getD i 0 + growM s.kind then i
      else heldGo ss f (i + 1) (onM h i s (h.getD i 0 + growM s.kind))
def hInit (n : Nat) : List Int := 0 :: List.replicate n (-1)
def heldM (ss : List St) : Int := heldGo ss ss.length 0 (hInit ss.length)

theorem joinM_or (o x : Int) : joinM o x = x ∨ joinM o x = -2 := by
  unfold joinM
  split
  · exact .inl rfl
  · exact .inr rfl
theorem join_keep {o x : Int} (h : o ≠ -1) : joinM o x = o ∨ joinM o x = -2 := by
  unfold joinM
  split
  · rename_i hc
    rcases hc with hc | hc
    · exact absurd hc h
    · exact .inl hc.symm
  · exact .inr rfl

theorem lead_len (h : List Int) (p : Nat) (x : Int) : (leadM h p x).length = h.length := by simp [leadM]
theorem lead_get {h : List Int} {p : Nat} (x : Int) (hp : p < h.length) (j : Nat) : (leadM h p x).getD j 0 = if p = j then joinM (h.getD p 0) x else h.getD j 0 := by
  unfold leadM
  rw [List.getD_eq_getElem?_getD, List.getElem?_set]
  by_cases hj : p = j
  · rw [if_pos hj, if_pos hj, if_pos hp]
    rfl
  · rw [if_neg hj, if_neg hj, ← List.getD_eq_getElem?_getD]
theorem onA_len (h : List Int) (i : Nat) (s : St) (x : Int) : (onA h i s x).length = h.length := by
  unfold onA
  split
  · rfl
  · exact lead_len _ _ _
theorem on_len (h : List Int) (i : Nat) (s : St) (x : Int) : (onM h i s x).length = h.length := by
  unfold onM
  split
  · rw [lead_len, onA_len]
  · exact onA_len _ _ _ _

/-- A step of code leads within it. -/
def InCode (n i : Nat) (s : St) : Prop := (s.kind = 74 ∨ s.kind = 73) → i + 1 + s.leave.toNat ≤ n

theorem onA_keep {h : List Int} {n i : Nat} {s : St} (x : Int) (hl : h.length = n + 1) (hi : i < n) {j : Nat} (hj : h.getD j 0 ≠ -1) : (onA h i s x).getD j 0 = h.getD j 0 ∨ (onA h i s x).getD j 0 = -2 := by
  unfold onA
  split
  · exact .inl rfl
  · rw [lead_get x (by omega)]
    split
    · rename_i e
      rw [← e] at hj ⊢
      exact join_keep hj
    · exact .inl rfl
theorem on_keep {h : List Int} {n i : Nat} {s : St} (x : Int) (hl : h.length = n + 1) (hi : i < n) (hs : InCode n i s) {j : Nat} (hj : h.getD j 0 ≠ -1) : (onM h i s x).getD j 0 = h.getD j 0 ∨ (onM h i s x).getD j 0 = -2 := by
  have hA := onA_keep (s := s) x hl hi hj
  unfold onM
  split
  · rename_i hk
    have := hs hk
    rw [lead_get x (by rw [onA_len]; omega)]
    split
    · rename_i e
      rw [e]
      rcases hA with hA | hA
      · rw [hA]; exact join_keep hj
      · rw [hA]
        have := join_keep (o := -2) (x := x) (by decide)
        rcases this with h | h <;> exact .inr h
    · exact hA
  · exact hA
theorem on_at {h : List Int} {n i : Nat} {s : St} (x : Int) (p : Pu) (hl : h.length = n + 1) (hi : i < n) (hs : InCode n i s) : (onM h i s x).getD (i + 1 + skipM s p) 0 = x ∨ (onM h i s x).getD (i + 1 + skipM s p) 0 = -2 := by
  have hA : s.kind ≠ 74 → ((onA h i s x).getD (i + 1) 0 = x ∨ (onA h i s x).getD (i + 1) 0 = -2) := by
    intro hk
    unfold onA
    rw [if_neg hk, lead_get x (by omega), if_pos rfl]
    exact joinM_or _ _
  unfold onM
  by_cases hk : s.kind = 74 ∨ s.kind = 73
  · have hle := hs hk
    rw [if_pos hk, lead_get x (by rw [onA_len]; omega)]
    by_cases e : i + 1 + s.leave.toNat = i + 1 + skipM s p
    · rw [if_pos e]; exact joinM_or _ _
    · rw [if_neg e]
      have hk3 : s.kind ≠ 74 := fun h4 => e (by simp [skipM, h4])
      have hk4 : s.kind = 73 := by rcases hk with h | h; exact absurd h hk3; exact h
      have hsk : skipM s p = 0 := by
        simp only [skipM, if_neg hk3, if_pos hk4] at e ⊢
        split
        · rename_i hc
          rw [if_pos hc] at e
          exact absurd rfl e
        · rfl
      rw [hsk]
      exact hA hk3
  · rw [if_neg hk]
    have hsk : skipM s p = 0 := by
      unfold skipM
      rw [if_neg (fun h => hk (.inl h)), if_neg (fun h => hk (.inr h))]
    rw [hsk]
    exact hA fun h => hk (.inl h)

theorem do_len (s : St) (p : Pu) (h : 0 ≤ (p.held.length : Int) + growM s.kind) : ((doM s p).held.length : Int) = p.held.length + growM s.kind := by
  unfold doM
  by_cases h80 : s.kind = 80
  · rw [if_pos h80, h80]; simp [payM, growM]
  rw [if_neg h80]
  by_cases h67 : s.kind = 67
  · rw [if_pos h67, h67]; simp [payM, growM]
  rw [if_neg h67]
  by_cases h82 : s.kind = 82
  · rw [if_pos h82, propM_held, h82]; simp [growM]
  rw [if_neg h82]
  by_cases h72 : s.kind = 72
  · rw [if_pos h72, h72]; simp [holdM, growM]
  rw [if_neg h72]
  by_cases h69 : s.kind = 69
  · rw [if_pos h69]
    have e : growM s.kind = -1 := by rw [h69]; rfl
    rw [e] at h ⊢
    unfold backM
    cases hg : p.held.getLast? with
    | none =>
      rw [List.getLast?_eq_none_iff] at hg
      rw [hg] at h
      simp at h
    | some x => simp; omega
  · rw [if_neg h69]
    have e : growM s.kind = 0 := by unfold growM; rw [if_neg h72, if_neg h69]
    omega

theorem stop_exec {ss : List St} (f pc : Nat) (p : Pu) (h : ¬ pc < ss.length) : execM ss f pc p = p := by
  cases f with
  | zero => rfl
  | succ f => simp only [execM, List.getElem?_eq_none (show ss.length ≤ pc by omega)]

theorem sticky {ss : List St} {n : Nat} (hn : ss.length = n) (hin : ∀ (i : Nat) (h : i < ss.length), InCode n i ss[i]) : ∀ (f i : Nat) (h : List Int) (j : Nat), f + i = n → h.length = n + 1 → i ≤ j → j ≤ n → h.getD j 0 = -2 → heldGo ss f i h ≠ -1
  | 0, i, h, j, hf, hl, hij, hj, hx => by
    have : i = j := by omega
    subst this
    unfold heldGo
    rw [if_neg (by omega)]
    omega
  | f + 1, i, h, j, hf, hl, hij, hj, hx => by
    have hi : i < ss.length := by omega
    unfold heldGo
    rw [List.getElem?_eq_getElem hi]
    dsimp only
    by_cases h1 : h.getD i 0 = -1
    · rw [if_pos h1]
      have : i ≠ j := fun e => by rw [e] at h1; omega
      exact sticky hn hin f (i + 1) h j (by omega) hl (by omega) hj hx
    · rw [if_neg h1]
      split
      · omega
      · rename_i hc
        have : i ≠ j := fun e => by subst e; exact hc (.inl hx)
        have hk := on_keep (s := ss[i]) (h.getD i 0 + growM ss[i].kind) hl (show i < n by omega) (hin i hi) (j := j) (by omega)
        refine sticky hn hin f (i + 1) _ j (by omega) (by rw [on_len]; exact hl) (by omega) hj ?_
        rcases hk with hk | hk
        · rw [hk]; exact hx
        · exact hk

theorem sound {ss : List St} {n : Nat} (hn : ss.length = n) (hin : ∀ (i : Nat) (h : i < ss.length), InCode n i ss[i]) : ∀ (f i : Nat) (h : List Int) (pc : Nat) (p : Pu) (F : Nat), f + i = n → h.length = n + 1 → i ≤ pc → pc ≤ n → h.getD pc 0 = p.held.length → heldGo ss f i h = -1 → n - pc ≤ F → (execM ss F pc p).held = []
  | 0, i, h, pc, p, F, hf, hl, hi, hp, hh, hg, hF => by
    have : i = pc := by omega
    subst this
    unfold heldGo at hg
    by_cases h0 : h.getD i 0 = 0
    · rw [stop_exec _ _ _ (by omega)]
      exact List.eq_nil_of_length_eq_zero (by omega)
    · rw [if_neg h0] at hg; omega
  | f + 1, i, h, pc, p, F, hf, hl, hi, hp, hh, hg, hF => by
    have hil : i < ss.length := by omega
    have hst := sticky hn hin
    unfold heldGo at hg
    rw [List.getElem?_eq_getElem hil] at hg
    dsimp only at hg
    by_cases h1 : h.getD i 0 = -1
    · rw [if_pos h1] at hg
      have : i ≠ pc := fun e => by rw [e] at h1; omega
      exact sound hn hin f (i + 1) h pc p F (by omega) hl (by omega) hp hh hg hF
    · rw [if_neg h1] at hg
      by_cases hc : h.getD i 0 = -2 ∨ h.getD i 0 + growM ss[i].kind < 0 ∨ 5 < h.getD i 0 + growM ss[i].kind
      · rw [if_pos hc] at hg; omega
      · rw [if_neg hc] at hg
        by_cases he : i = pc
        · subst he
          obtain ⟨F', rfl⟩ : ∃ F', F = F' + 1 := ⟨F - 1, by omega⟩
          have hd := do_len ss[i] p (by omega)
          have hex : execM ss (F' + 1) i p = execM ss F' (i + 1 + skipM ss[i] p) (doM ss[i] p) := by simp only [execM, List.getElem?_eq_getElem hil]
          rw [hex]
          have hsk : i + 1 + skipM ss[i] p ≤ n := by
            have := hin i hil
            unfold InCode at this
            unfold skipM
            split
            · rename_i hk; exact this (.inl hk)
            split
            · rename_i hk
              have := this (.inr hk)
              split <;> omega
            · omega
          have ha := on_at (s := ss[i]) (h.getD i 0 + growM ss[i].kind) p hl (show i < n by omega) (hin i hil)
          rcases ha with ha | ha
          · exact sound hn hin f (i + 1) _ _ _ F' (by omega) (by rw [on_len]; exact hl) (by omega) hsk (by rw [ha, hd, hh]) hg (by omega)
          · exact absurd hg (hst f (i + 1) _ _ (by omega) (by rw [on_len]; exact hl) (by omega) hsk ha)
        · have hk := on_keep (s := ss[i]) (h.getD i 0 + growM ss[i].kind) hl (show i < n by omega) (hin i hil) (j := pc) (by omega)
          rcases hk with hk | hk
          · exact sound hn hin f (i + 1) _ pc p F (by omega) (by rw [on_len]; exact hl) (by omega) hp (by rw [hk, hh]) hg hF
          · exact absurd hg (hst f (i + 1) _ pc (by omega) (by rw [on_len]; exact hl) (by omega) hp hk)

/-- Code that is admitted holds nothing at its end. -/
theorem held_none {ss : List St} (hin : ∀ (i : Nat) (h : i < ss.length), InCode ss.length i ss[i]) (hM : heldM ss = -1) (p : Pu) (hp : p.held = []) : (execM ss ss.length 0 p).held = [] :=
  sound rfl hin ss.length 0 (hInit ss.length) 0 p ss.length (by omega) (by simp [hInit]) (Nat.le_refl _) (Nat.zero_le _) (by simp [hInit, hp]) hM (by omega)
end Go.Proofs.Ytmdjdpofpkgffab.Split

/- Plain: the code of a policy has heights. -/
namespace Go.Proofs.Ytmdjdpofpkgffab.Split
set_option linter.unusedVariables false
set_option linter.unusedSimpArgs false

/-- Code that leaves the height as it was, wherever it stands. -/
def Hgt (x : Int) (B : List St) : Prop :=
  ∀ (ss : List St) (o f : Nat) (h : List Int), (∀ j, j < B.length → ss[o + j]? = B[j]?) → o + B.length + f = ss.length → h.length = ss.length + 1 →
    h.getD o 0 = x → (∀ j, o < j → j < o + B.length → h.getD j 0 = -1) → (h.getD (o + B.length) 0 = -1 ∨ h.getD (o + B.length) 0 = x) →
    ∃ h' : List Int, h'.length = h.length ∧ heldGo ss (B.length + f) o h = heldGo ss f (o + B.length) h' ∧ h'.getD (o + B.length) 0 = x ∧ ∀ j, o + B.length < j → h'.getD j 0 = h.getD j 0

theorem hgt_nil (x : Int) : Hgt x [] := by
  intro ss o f h _ _ _ h1 _ _
  exact ⟨h, rfl, by simp, by simpa using h1, fun j _ => rfl⟩

theorem hgt_app {x : Int} {A B : List St} (hA : Hgt x A) (hB : Hgt x B) : Hgt x (A ++ B) := by
  intro ss o f h hs hn hl h1 h2 h3
  rw [List.length_append] at hn h2 h3
  have hAe : h.getD (o + A.length) 0 = -1 ∨ h.getD (o + A.length) 0 = x := by
    by_cases ha : A.length = 0
    · right; rw [ha]; exact h1
    · by_cases hb : B.length = 0
      · rw [hb] at h3; exact h3
      · left; exact h2 _ (by omega) (by omega)
  obtain ⟨h', l', e', x', r'⟩ := hA ss o (B.length + f) h (fun j hj => by rw [hs j (by rw [List.length_append]; omega), List.getElem?_append_left hj]) (by omega) hl h1 (fun j a b => h2 j a (by omega)) hAe
  obtain ⟨h'', l'', e'', x'', r''⟩ := hB ss (o + A.length) f h' (fun j hj => by
      have := hs (A.length + j) (by rw [List.length_append]; omega)
      rw [List.getElem?_append_right (by omega), show A.length + j - A.length = j by omega] at this
      rw [← this, Nat.add_assoc]) (by omega) (by omega) x' (fun j a b => by rw [r' j a]; exact h2 j (by omega) (by omega)) (by
      by_cases hb : B.length = 0
      · right; rw [hb, Nat.add_zero]; exact x'
      · rw [r' _ (by omega), Nat.add_assoc]; exact h3)
  refine ⟨h'', by omega, ?_, ?_, fun j hj => ?_⟩
  · rw [List.length_append, Nat.add_assoc, e', e'', Nat.add_assoc]
  · rw [List.length_append, ← Nat.add_assoc]; exact x''
  · rw [List.length_append] at hj
    rw [r'' j (by omega), r' j (by omega)]

/-- One step of the look. -/
theorem go_step {ss : List St} {o f : Nat} {h : List Int} {s : St} {x : Int} (hs : ss[o]? = some s) (hx : h.getD o 0 = x) (h0 : 0 ≤ x) (h1 : 0 ≤ x + growM s.kind) (h5 : x + growM s.kind ≤ 5) : heldGo ss (f + 1) o h = heldGo ss f (o + 1) (onM h o s (x + growM s.kind)) := by
  simp only [heldGo, hs, hx]
  rw [if_neg (by omega), if_neg (by omega)]

theorem join_self {o x : Int} (h : o = -1 ∨ o = x) : joinM o x = x := by
  unfold joinM; rw [if_pos h]

theorem hgt_plain {x : Int} {s : St} (h72 : s.kind ≠ 72) (h69 : s.kind ≠ 69) (h74 : s.kind ≠ 74) (h73 : s.kind ≠ 73) (hx0 : 0 ≤ x) (hx5 : x ≤ 5) : Hgt x [s] := by
  intro ss o f h hs hn hl h1 h2 h3
  have hg : growM s.kind = 0 := by unfold growM; rw [if_neg h72, if_neg h69]
  have hs0 : ss[o]? = some s := by simpa using hs 0 (by simp)
  simp only [List.length_cons, List.length_nil, Nat.zero_add] at hn h2 h3 ⊢
  have hon : onM h o s (x + growM s.kind) = leadM h (o + 1) x := by
    unfold onM onA
    rw [if_neg (by rintro (e | e); exact h74 e; exact h73 e), if_neg h74, hg, Int.add_zero]
  refine ⟨leadM h (o + 1) x, lead_len _ _ _, ?_, ?_, fun j hj => ?_⟩
  · rw [Nat.add_comm 1 f, go_step hs0 h1 hx0 (by omega) (by omega), hon]
  · rw [lead_get x (by omega), if_pos rfl, join_self h3]
  · rw [lead_get x (by omega), if_neg (by omega)]

theorem hgt_H {x : Int} {s : St} {B : List St} (h72 : s.kind = 72) (hB : Hgt (x + 1) B) (hx0 : 0 ≤ x) (hx5 : x + 1 ≤ 5) : Hgt x (s :: (B ++ [stE])) := by
  intro ss o f h hs hn hl h1 h2 h3
  have hlen : (s :: (B ++ [stE])).length = B.length + 2 := by simp
  rw [hlen] at hn h2 h3
  have hg : growM s.kind = 1 := by unfold growM; rw [if_pos h72]
  have hs0 : ss[o]? = some s := by simpa using hs 0 (by simp)
  have hon : onM h o s (x + growM s.kind) = leadM h (o + 1) (x + 1) := by
    unfold onM onA
    rw [if_neg (by rw [h72]; decide), if_neg (by rw [h72]; decide), hg]
  have hk1 := lead_get (h := h) (p := o + 1) (x + 1) (by omega)
  have e1 : (leadM h (o + 1) (x + 1)).getD (o + 1) 0 = x + 1 := by
    rw [hk1, if_pos rfl]
    exact join_self (.inl (h2 _ (by omega) (by omega)))
  have e2 : ∀ j, o + 1 < j → (leadM h (o + 1) (x + 1)).getD j 0 = h.getD j 0 := fun j hj => by rw [hk1, if_neg (by omega)]
  have l1 := lead_len h (o + 1) (x + 1)
  obtain ⟨g, lg, eg, xg, rg⟩ := hB ss (o + 1) (1 + f) (leadM h (o + 1) (x + 1)) (fun j hj => by
      have := hs (j + 1) (by rw [hlen]; omega)
      rw [List.getElem?_cons_succ, List.getElem?_append_left hj] at this
      rw [← this]; congr 1; omega) (by omega) (by omega) e1 (fun j a b => by rw [e2 j a]; exact h2 j (by omega) (by omega)) (by
      by_cases hb : B.length = 0
      · right; rw [hb]; exact e1
      · left; rw [e2 _ (by omega)]; exact h2 _ (by omega) (by omega))
  have hsE : ss[o + 1 + B.length]? = some stE := by
    have := hs (B.length + 1) (by rw [hlen]; omega)
    rw [List.getElem?_cons_succ, List.getElem?_append_right (Nat.le_refl _), Nat.sub_self] at this
    rw [show o + 1 + B.length = o + (B.length + 1) by omega, this]
    rfl
  have hgE : growM stE.kind = -1 := rfl
  have honE : onM g (o + 1 + B.length) stE (x + 1 + growM stE.kind) = leadM g (o + 1 + B.length + 1) x := by
    rw [hgE, show x + 1 + -1 = x by omega]
    rfl
  refine ⟨leadM g (o + 1 + B.length + 1) x, by rw [lead_len]; omega, ?_, ?_, fun j hj => ?_⟩
  · rw [hlen, show B.length + 2 + f = (B.length + (1 + f)) + 1 by omega, go_step hs0 h1 hx0 (by omega) (by omega), hon, eg, Nat.add_comm 1 f, go_step hsE xg (by omega) (by rw [hgE]; omega) (by rw [hgE]; omega), honE]
    congr 1
    omega
  · rw [hlen, show o + (B.length + 2) = o + 1 + B.length + 1 by omega, lead_get x (by omega), if_pos rfl, rg _ (by omega), e2 _ (by omega)]
    exact join_self (by rw [show o + 1 + B.length + 1 = o + (B.length + 2) by omega]; exact h3)
  · rw [hlen] at hj
    rw [lead_get x (by omega), if_neg (by omega), rg _ (by omega), e2 _ (by omega)]

theorem hgt_I {x : Int} {s : St} {B C : List St} (h73 : s.kind = 73) (hlv : s.leave = (B.length : Int) + 1) (hB : Hgt x B) (hC : Hgt x C) (hx0 : 0 ≤ x) (hx5 : x ≤ 5) : Hgt x (s :: (B ++ stJ C.length :: C)) := by
  intro ss o f h hs hn hl h1 h2 h3
  have hlen : (s :: (B ++ stJ C.length :: C)).length = B.length + C.length + 2 := by simp; omega
  rw [hlen] at hn h2 h3
  have hg : growM s.kind = 0 := by unfold growM; rw [if_neg (by rw [h73]; decide), if_neg (by rw [h73]; decide)]
  have hs0 : ss[o]? = some s := by simpa using hs 0 (by simp)
  have hlt : s.leave.toNat = B.length + 1 := by omega
  have hon : onM h o s (x + growM s.kind) = leadM (leadM h (o + 1) x) (o + 1 + (B.length + 1)) x := by
    unfold onM onA
    rw [if_pos (.inr h73), if_neg (by rw [h73]; decide), hg, Int.add_zero, hlt]
  obtain ⟨g1, hg1⟩ : ∃ g, leadM (leadM h (o + 1) x) (o + 1 + (B.length + 1)) x = g := ⟨_, rfl⟩
  have hk1 := lead_get (h := h) (p := o + 1) x (by omega)
  have hk2 := lead_get (h := leadM h (o + 1) x) (p := o + 1 + (B.length + 1)) x (by rw [lead_len]; omega)
  have l1 : g1.length = h.length := by rw [← hg1, lead_len, lead_len]
  rw [hg1] at hk2 hon
  have e1 : g1.getD (o + 1) 0 = x := by
    rw [hk2, if_neg (by omega), hk1, if_pos rfl]
    exact join_self (.inl (h2 _ (by omega) (by omega)))
  have e2 : g1.getD (o + 1 + (B.length + 1)) 0 = x := by
    rw [hk2, if_pos rfl, hk1, if_neg (by omega)]
    apply join_self
    by_cases hc : C.length = 0
    · rw [show o + 1 + (B.length + 1) = o + (B.length + C.length + 2) by omega]; exact h3
    · left; exact h2 _ (by omega) (by omega)
  have e3 : ∀ j, o + 1 < j → j ≠ o + 1 + (B.length + 1) → g1.getD j 0 = h.getD j 0 := fun j hj hne => by
    rw [hk2, if_neg (by omega), hk1, if_neg (by omega)]
  obtain ⟨g2, l2, q2, x2, r2⟩ := hB ss (o + 1) (1 + C.length + f) g1 (fun j hj => by
      have := hs (j + 1) (by rw [hlen]; omega)
      rw [List.getElem?_cons_succ, List.getElem?_append_left hj] at this
      rw [← this]; congr 1; omega) (by omega) (by omega) e1 (fun j a b => by rw [e3 j a (by omega)]; exact h2 j (by omega) (by omega)) (by
      by_cases hb : B.length = 0
      · right; rw [hb]; exact e1
      · left; rw [e3 _ (by omega) (by omega)]; exact h2 _ (by omega) (by omega))
  have hsJ : ss[o + 1 + B.length]? = some (stJ C.length) := by
    have := hs (B.length + 1) (by rw [hlen]; omega)
    rw [List.getElem?_cons_succ, List.getElem?_append_right (Nat.le_refl _), Nat.sub_self] at this
    rw [show o + 1 + B.length = o + (B.length + 1) by omega, this]
    rfl
  have hgJ : growM (stJ C.length).kind = 0 := rfl
  have honJ : onM g2 (o + 1 + B.length) (stJ C.length) (x + growM (stJ C.length).kind) = leadM g2 (o + 1 + B.length + 1 + C.length) x := by
    rw [hgJ, Int.add_zero]
    rfl
  have hk3 := lead_get (h := g2) (p := o + 1 + B.length + 1 + C.length) x (by omega)
  have e4 : (leadM g2 (o + 1 + B.length + 1 + C.length) x).getD (o + 1 + B.length + 1) 0 = x := by
    rw [hk3]
    by_cases hc : C.length = 0
    · rw [if_pos (by omega), hc, Nat.add_zero, r2 _ (by omega)]
      rw [show o + 1 + B.length + 1 = o + 1 + (B.length + 1) by omega, e2]
      exact join_self (.inr rfl)
    · rw [if_neg (by omega), r2 _ (by omega)]
      rw [show o + 1 + B.length + 1 = o + 1 + (B.length + 1) by omega]
      exact e2
  have e5 : (leadM g2 (o + 1 + B.length + 1 + C.length) x).getD (o + 1 + B.length + 1 + C.length) 0 = x := by
    rw [hk3, if_pos rfl, r2 _ (by omega)]
    by_cases hc : C.length = 0
    · rw [hc, Nat.add_zero, show o + 1 + B.length + 1 = o + 1 + (B.length + 1) by omega, e2]
      exact join_self (.inr rfl)
    · rw [e3 _ (by omega) (by omega)]
      apply join_self
      rw [show o + 1 + B.length + 1 + C.length = o + (B.length + C.length + 2) by omega]; exact h3
  obtain ⟨g4, l4, q4, x4, r4⟩ := hC ss (o + 1 + B.length + 1) f (leadM g2 (o + 1 + B.length + 1 + C.length) x) (fun j hj => by
      have := hs (B.length + 1 + (j + 1)) (by rw [hlen]; omega)
      rw [show B.length + 1 + (j + 1) = (B.length + (j + 1)) + 1 by omega, List.getElem?_cons_succ, List.getElem?_append_right (by omega), show B.length + (j + 1) - B.length = j + 1 by omega, List.getElem?_cons_succ] at this
      rw [← this]; congr 1; omega) (by omega) (by rw [lead_len]; omega) e4 (fun j a b => by
        rw [hk3, if_neg (by omega), r2 j (by omega), e3 j (by omega) (by omega)]; exact h2 j (by omega) (by omega)) (.inr e5)
  refine ⟨g4, by rw [l4, lead_len]; omega, ?_, ?_, fun j hj => ?_⟩
  · rw [hlen, show B.length + C.length + 2 + f = (B.length + (1 + C.length + f)) + 1 by omega, go_step hs0 h1 hx0 (by omega) (by omega), hon, q2, show 1 + C.length + f = (C.length + f) + 1 by omega, go_step hsJ x2 hx0 (by rw [hgJ]; omega) (by rw [hgJ]; omega), honJ, q4]
    congr 1
    omega
  · rw [hlen, show o + (B.length + C.length + 2) = o + 1 + B.length + 1 + C.length by omega]; exact x4
  · rw [hlen] at hj
    rw [r4 j (by omega), hk3, if_neg (by omega), r2 j (by omega), e3 j (by omega) (by omega)]

/-- Of the whole. -/
theorem hgt_all {ss : List St} (h : Hgt 0 ss) : heldM ss = -1 := by
  unfold heldM
  have hi : ∀ j, 0 < j → j < ss.length + 1 → (hInit ss.length).getD j 0 = -1 := fun j h1 h2 => by
    obtain ⟨k, rfl⟩ : ∃ k, j = k + 1 := ⟨j - 1, by omega⟩
    unfold hInit
    rw [List.getD_cons_succ, List.getD_eq_getElem?_getD, List.getElem?_replicate, if_pos (by omega)]
    rfl
  obtain ⟨h', l', e', x', _⟩ := h ss 0 0 (hInit ss.length) (fun j _ => by rw [Nat.zero_add]) (by omega) (by simp [hInit]) rfl (fun j a b => hi j a (by omega)) (by
    by_cases hz : ss.length = 0
    · right; rw [hz]; rfl
    · left; exact hi _ (by omega) (by omega))
  rw [Nat.add_zero, Nat.zero_add] at e'
  rw [e']
  rw [Nat.zero_add] at x'
  unfold heldGo
  rw [if_pos x']
end Go.Proofs.Ytmdjdpofpkgffab.Split

/- Plain: what is held, step by step of a run. -/
namespace Go.Proofs.Ytmdjdpofpkgffab.Split
set_option linter.unusedVariables false
set_option linter.unusedSimpArgs false

/-- The look goes on to a place that has come to be. -/
theorem run_to {ss : List St} {n : Nat} (hn : ss.length = n) (hin : ∀ (i : Nat) (h : i < ss.length), InCode n i ss[i]) : ∀ (d i : Nat) (h : List Int) (x : Int), i + d ≤ n → h.length = n + 1 → heldGo ss (n - i) i h = -1 → h.getD (i + d) 0 = x → 0 ≤ x → ∃ h' : List Int, h'.length = n + 1 ∧ heldGo ss (n - (i + d)) (i + d) h' = -1 ∧ h'.getD (i + d) 0 = x
  | 0, i, h, x, hi, hl, hg, hx, h0 => ⟨h, hl, hg, hx⟩
  | d + 1, i, h, x, hi, hl, hg, hx, h0 => by
    have hil : i < ss.length := by omega
    have hst := sticky hn hin
    obtain ⟨f, hf⟩ : ∃ f, n - i = f + 1 := ⟨n - i - 1, by omega⟩
    have hf2 : n - (i + 1) = f := by omega
    rw [hf] at hg
    unfold heldGo at hg
    rw [List.getElem?_eq_getElem hil] at hg
    dsimp only at hg
    rw [show i + (d + 1) = (i + 1) + d by omega] at hx hi ⊢
    by_cases h1 : h.getD i 0 = -1
    · rw [if_pos h1] at hg
      exact run_to hn hin d (i + 1) h x hi hl (by rw [hf2]; exact hg) hx h0
    · rw [if_neg h1] at hg
      by_cases hc : h.getD i 0 = -2 ∨ h.getD i 0 + growM ss[i].kind < 0 ∨ 5 < h.getD i 0 + growM ss[i].kind
      · rw [if_pos hc] at hg; omega
      · rw [if_neg hc] at hg
        have hk := on_keep (s := ss[i]) (h.getD i 0 + growM ss[i].kind) hl (show i < n by omega) (hin i hil) (j := i + 1 + d) (by omega)
        rcases hk with hk | hk
        · exact run_to hn hin d (i + 1) (onM h i ss[i] (h.getD i 0 + growM ss[i].kind)) x hi ((on_len _ _ _ _).trans hl) (by rw [hf2]; exact hg) (hk.trans hx) h0
        · exact absurd hg (hst f (i + 1) _ (i + 1 + d) (by omega) (by rw [on_len]; exact hl) (by omega) (by omega) hk)

/-- A run that has come to a place holds what the place's height says. -/
def Well (ss : List St) (pc : Nat) (p : Pu) : Prop := pc ≤ ss.length ∧ ∃ h : List Int, h.length = ss.length + 1 ∧ heldGo ss (ss.length - pc) pc h = -1 ∧ h.getD pc 0 = p.held.length

theorem well_start {ss : List St} {p : Pu} (hM : heldM ss = -1) (hp : p.held = []) : Well ss 0 p :=
  ⟨Nat.zero_le _, hInit ss.length, by simp [hInit], hM, by simp [hInit, hp]⟩

theorem well_step {ss : List St} {pc : Nat} {p : Pu} (hin : ∀ (i : Nat) (h : i < ss.length), InCode ss.length i ss[i]) (hW : Well ss pc p) (hlt : pc < ss.length) :
    p.held.length ≤ 6 ∧ (ss[pc].kind = 69 → p.held ≠ []) ∧ Well ss (pc + 1 + skipM ss[pc] p) (doM ss[pc] p) := by
  obtain ⟨_, h, hl, hg, hx⟩ := hW
  obtain ⟨f, hf⟩ : ∃ f, ss.length - pc = f + 1 := ⟨ss.length - pc - 1, by omega⟩
  have hf2 : ss.length - (pc + 1) = f := by omega
  rw [hf] at hg
  unfold heldGo at hg
  rw [List.getElem?_eq_getElem hlt] at hg
  dsimp only at hg
  rw [if_neg (by omega)] at hg
  by_cases hc : h.getD pc 0 = -2 ∨ h.getD pc 0 + growM ss[pc].kind < 0 ∨ 5 < h.getD pc 0 + growM ss[pc].kind
  · rw [if_pos hc] at hg; omega
  · rw [if_neg hc] at hg
    have hgr : -1 ≤ growM ss[pc].kind := by unfold growM; split; omega; split <;> omega
    have hd := do_len ss[pc] p (by omega)
    refine ⟨by omega, fun h69 he => ?_, ?_⟩
    · have : growM ss[pc].kind = -1 := by rw [h69]; rfl
      have hz : (p.held.length : Int) = 0 := by rw [he]; rfl
      omega
    · have hsk : pc + 1 + skipM ss[pc] p ≤ ss.length := by
        have := hin pc hlt
        unfold InCode at this
        unfold skipM
        split
        · rename_i hk; exact this (.inl hk)
        split
        · rename_i hk
          have := this (.inr hk)
          split <;> omega
        · omega
      have ha := on_at (s := ss[pc]) (h.getD pc 0 + growM ss[pc].kind) p hl hlt (hin pc hlt)
      have ha' : (onM h pc ss[pc] (h.getD pc 0 + growM ss[pc].kind)).getD (pc + 1 + skipM ss[pc] p) 0 = h.getD pc 0 + growM ss[pc].kind := by
        rcases ha with ha | ha
        · exact ha
        · exact absurd hg (sticky rfl hin f (pc + 1) _ _ (by omega) (by rw [on_len]; exact hl) (by omega) hsk ha)
      obtain ⟨h', l', g', x'⟩ := run_to rfl hin (skipM ss[pc] p) (pc + 1) (onM h pc ss[pc] (h.getD pc 0 + growM ss[pc].kind)) _ hsk ((on_len _ _ _ _).trans hl) (by rw [hf2]; exact hg) ha' (by omega)
      exact ⟨hsk, h', l', g', by rw [x', hx, hd]⟩
end Go.Proofs.Ytmdjdpofpkgffab.Split
