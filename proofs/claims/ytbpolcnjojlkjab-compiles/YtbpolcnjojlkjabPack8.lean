/- HeldM, RefCode -/
import Derived.Test.YtbpolcnjojlkjabPack5
import Derived.Test.YtbpolcnjojlkjabPack6
import Derived.Test.YtbpolcnjojlkjabPack7

/- Plain: the heights of code; that what is held is gone at its end. -/
namespace Go.Proofs.Ytbpolcnjojlkjab.Split
set_option linter.unusedVariables false
set_option linter.unusedSimpArgs false

def joinM (old x : Int) : Int := if old = -1 ∨ old = x then x else -2
def leadM (h : List Int) (p : Nat) (x : Int) : List Int := h.set p (joinM (h.getD p 0) x)
def growM (k : Int) : Int := if k = 72 then 1 else if k = 69 then -1 else 0
def onA (h : List Int) (i : Nat) (s : St) (x : Int) : List Int := if s.kind = 74 then h else leadM h (i + 1) x
def onM (h : List Int) (i : Nat) (s : St) (x : Int) : List Int := if s.kind = 74 ∨ s.kind = 73 then leadM (onA h i s x) (i + 1 + s.leave.toNat) x else onA h i s x

/-- From place i on, f places to go: the place that has ErrHeld; -1: none. -/
def heldGo (ss : List St) : Nat → Nat → List Int → Int
  | 0, i, h => if h.getD i 0 = 0 then -1 else i
  | f + 1, i, h => match ss[i]? with
    | none => -1
    | some s =>
      if h.getD i 0 = -1 then heldGo ss f (i + 1) h
      else if h.getD i 0 = -2 ∨ h.getD i 0 + growM s.kind < 0 ∨ 5 < h.getD i 0 + growM s.kind then i
      else heldGo ss f (i + 1) (onM h i s (h.getD i 0 + growM s.kind))
def hInit (n : Nat) : List Int := 0 :: List.replicate n (-1)
def heldM (ss : List St) : Int := heldGo ss ss.length 0 (hInit ss.length)

theorem joinM_or (o x : Int) : joinM o x = x ∨ joinM o x = -2 := by
  unfold joinM
  split
  · exact .inl rfl
  · exact .inr rfl
theorem join_keep {o x : Int} (h : o ≠ -1) : joinM o x = o ∨ joinM o x = -2 := by
  unfold joinM
  split
  · rename_i hc
    rcases hc with hc | hc
    · exact absurd hc h
    · exact .inl hc.symm
  · exact .inr rfl

theorem lead_len (h : List Int) (p : Nat) (x : Int) : (leadM h p x).length = h.length := by simp [leadM]
theorem lead_get {h : List Int} {p : Nat} (x : Int) (hp : p < h.length) (j : Nat) : (leadM h p x).getD j 0 = if p = j then joinM (h.getD p 0) x else h.getD j 0 := by
  unfold leadM
  rw [List.getD_eq_getElem?_getD, List.getElem?_set]
  by_cases hj : p = j
  · rw [if_pos hj, if_pos hj, if_pos hp]
    rfl
  · rw [if_neg hj, if_neg hj, ← List.getD_eq_getElem?_getD]
theorem onA_len (h : List Int) (i : Nat) (s : St) (x : Int) : (onA h i s x).length = h.length := by
  unfold onA
  split
  · rfl
  · exact lead_len _ _ _
theorem on_len (h : List Int) (i : Nat) (s : St) (x : Int) : (onM h i s x).length = h.length := by
  unfold onM
  split
  · rw [lead_len, onA_len]
  · exact onA_len _ _ _ _

/-- A step of code leads within it. -/
def InCode (n i : Nat) (s : St) : Prop := (s.kind = 74 ∨ s.kind = 73) → i + 1 + s.leave.toNat ≤ n

theorem onA_keep {h : List Int} {n i : Nat} {s : St} (x : Int) (hl : h.length = n + 1) (hi : i < n) {j : Nat} (hj : h.getD j 0 ≠ -1) : (onA h i s x).getD j 0 = h.getD j 0 ∨ (onA h i s x).getD j 0 = -2 := by
  unfold onA
  split
  · exact .inl rfl
  · rw [lead_get x (by omega)]
    split
    · rename_i e
      rw [← e] at hj ⊢
      exact join_keep hj
    · exact .inl rfl
theorem on_keep {h : List Int} {n i : Nat} {s : St} (x : Int) (hl : h.length = n + 1) (hi : i < n) (hs : InCode n i s) {j : Nat} (hj : h.getD j 0 ≠ -1) : (onM h i s x).getD j 0 = h.getD j 0 ∨ (onM h i s x).getD j 0 = -2 := by
  have hA := onA_keep (s := s) x hl hi hj
  unfold onM
  split
  · rename_i hk
    have := hs hk
    rw [lead_get x (by rw [onA_len]; omega)]
    split
    · rename_i e
      rw [e]
      rcases hA with hA | hA
      · rw [hA]; exact join_keep hj
      · rw [hA]
        have := join_keep (o := -2) (x := x) (by decide)
        rcases this with h | h <;> exact .inr h
    · exact hA
  · exact hA
theorem on_at {h : List Int} {n i : Nat} {s : St} (x : Int) (p : Pu) (hl : h.length = n + 1) (hi : i < n) (hs : InCode n i s) : (onM h i s x).getD (i + 1 + skipM s p) 0 = x ∨ (onM h i s x).getD (i + 1 + skipM s p) 0 = -2 := by
  have hA : s.kind ≠ 74 → ((onA h i s x).getD (i + 1) 0 = x ∨ (onA h i s x).getD (i + 1) 0 = -2) := by
    intro hk
    unfold onA
    rw [if_neg hk, lead_get x (by omega), if_pos rfl]
    exact joinM_or _ _
  unfold onM
  by_cases hk : s.kind = 74 ∨ s.kind = 73
  · have hle := hs hk
    rw [if_pos hk, lead_get x (by rw [onA_len]; omega)]
    by_cases e : i + 1 + s.leave.toNat = i + 1 + skipM s p
    · rw [if_pos e]; exact joinM_or _ _
    · rw [if_neg e]
      have hk3 : s.kind ≠ 74 := fun h4 => e (by simp [skipM, h4])
      have hk4 : s.kind = 73 := by rcases hk with h | h; exact absurd h hk3; exact h
      have hsk : skipM s p = 0 := by
        simp only [skipM, if_neg hk3, if_pos hk4] at e ⊢
        split
        · rename_i hc
          rw [if_pos hc] at e
          exact absurd rfl e
        · rfl
      rw [hsk]
      exact hA hk3
  · rw [if_neg hk]
    have hsk : skipM s p = 0 := by
      unfold skipM
      rw [if_neg (fun h => hk (.inl h)), if_neg (fun h => hk (.inr h))]
    rw [hsk]
    exact hA fun h => hk (.inl h)

theorem do_len (s : St) (p : Pu) (h : 0 ≤ (p.held.length : Int) + growM s.kind) : ((doM s p).held.length : Int) = p.held.length + growM s.kind := by
  unfold doM
  by_cases h80 : s.kind = 80
  · rw [if_pos h80, h80]; simp [payM, growM]
  rw [if_neg h80]
  by_cases h67 : s.kind = 67
  · rw [if_pos h67, h67]; simp [payM, growM]
  rw [if_neg h67]
  by_cases h82 : s.kind = 82
  · rw [if_pos h82, propM_held, h82]; simp [growM]
  rw [if_neg h82]
  by_cases h72 : s.kind = 72
  · rw [if_pos h72, h72]; simp [holdM, growM]
  rw [if_neg h72]
  by_cases h69 : s.kind = 69
  · rw [if_pos h69]
    have e : growM s.kind = -1 := by rw [h69]; rfl
    rw [e] at h ⊢
    unfold backM
    cases hg : p.held.getLast? with
    | none =>
      rw [List.getLast?_eq_none_iff] at hg
      rw [hg] at h
      simp at h
    | some x => simp; omega
  · rw [if_neg h69]
    have e : growM s.kind = 0 := by unfold growM; rw [if_neg h72, if_neg h69]
    omega

theorem stop_exec {ss : List St} (f pc : Nat) (p : Pu) (h : ¬ pc < ss.length) : execM ss f pc p = p := by
  cases f with
  | zero => rfl
  | succ f => simp only [execM, List.getElem?_eq_none (show ss.length ≤ pc by omega)]

section
variable {ss : List St} {n : Nat} (hn : ss.length = n) (hin : ∀ (i : Nat) (h : i < ss.length), InCode n i ss[i])
include hn hin

theorem sticky : ∀ (f i : Nat) (h : List Int) (j : Nat), f + i = n → h.length = n + 1 → i ≤ j → j ≤ n → h.getD j 0 = -2 → heldGo ss f i h ≠ -1
  | 0, i, h, j, hf, hl, hij, hj, hx => by
    have : i = j := by omega
    subst this
    unfold heldGo
    rw [if_neg (by omega)]
    omega
  | f + 1, i, h, j, hf, hl, hij, hj, hx => by
    have hi : i < ss.length := by omega
    unfold heldGo
    rw [List.getElem?_eq_getElem hi]
    dsimp only
    by_cases h1 : h.getD i 0 = -1
    · rw [if_pos h1]
      have : i ≠ j := fun e => by rw [e] at h1; omega
      exact sticky f (i + 1) h j (by omega) hl (by omega) hj hx
    · rw [if_neg h1]
      split
      · omega
      · rename_i hc
        have : i ≠ j := fun e => by subst e; exact hc (.inl hx)
        have hk := on_keep (s := ss[i]) (h.getD i 0 + growM ss[i].kind) hl (show i < n by omega) (hin i hi) (j := j) (by omega)
        refine sticky f (i + 1) _ j (by omega) (by rw [on_len]; exact hl) (by omega) hj ?_
        rcases hk with hk | hk
        · rw [hk]; exact hx
        · exact hk

theorem sound : ∀ (f i : Nat) (h : List Int) (pc : Nat) (p : Pu) (F : Nat), f + i = n → h.length = n + 1 → i ≤ pc → pc ≤ n → h.getD pc 0 = p.held.length → heldGo ss f i h = -1 → n - pc ≤ F → (execM ss F pc p).held = []
  | 0, i, h, pc, p, F, hf, hl, hi, hp, hh, hg, hF => by
    have : i = pc := by omega
    subst this
    unfold heldGo at hg
    by_cases h0 : h.getD i 0 = 0
    · rw [stop_exec _ _ _ (by omega)]
      exact List.eq_nil_of_length_eq_zero (by omega)
    · rw [if_neg h0] at hg; omega
  | f + 1, i, h, pc, p, F, hf, hl, hi, hp, hh, hg, hF => by
    have hil : i < ss.length := by omega
    have hst := sticky hn hin
    unfold heldGo at hg
    rw [List.getElem?_eq_getElem hil] at hg
    dsimp only at hg
    by_cases h1 : h.getD i 0 = -1
    · rw [if_pos h1] at hg
      have : i ≠ pc := fun e => by rw [e] at h1; omega
      exact sound f (i + 1) h pc p F (by omega) hl (by omega) hp hh hg hF
    · rw [if_neg h1] at hg
      by_cases hc : h.getD i 0 = -2 ∨ h.getD i 0 + growM ss[i].kind < 0 ∨ 5 < h.getD i 0 + growM ss[i].kind
      · rw [if_pos hc] at hg; omega
      · rw [if_neg hc] at hg
        by_cases he : i = pc
        · subst he
          obtain ⟨F', rfl⟩ : ∃ F', F = F' + 1 := ⟨F - 1, by omega⟩
          have hd := do_len ss[i] p (by omega)
          have hex : execM ss (F' + 1) i p = execM ss F' (i + 1 + skipM ss[i] p) (doM ss[i] p) := by simp only [execM, List.getElem?_eq_getElem hil]
          rw [hex]
          have hsk : i + 1 + skipM ss[i] p ≤ n := by
            have := hin i hil
            unfold InCode at this
            unfold skipM
            split
            · rename_i hk; exact this (.inl hk)
            split
            · rename_i hk
              have := this (.inr hk)
              split <;> omega
            · omega
          have ha := on_at (s := ss[i]) (h.getD i 0 + growM ss[i].kind) p hl (show i < n by omega) (hin i hil)
          rcases ha with ha | ha
          · exact sound f (i + 1) _ _ _ F' (by omega) (by rw [on_len]; exact hl) (by omega) hsk (by rw [ha, hd, hh]) hg (by omega)
          · exact absurd hg (hst f (i + 1) _ _ (by omega) (by rw [on_len]; exact hl) (by omega) hsk ha)
        · have hk := on_keep (s := ss[i]) (h.getD i 0 + growM ss[i].kind) hl (show i < n by omega) (hin i hil) (j := pc) (by omega)
          rcases hk with hk | hk
          · exact sound f (i + 1) _ pc p F (by omega) (by rw [on_len]; exact hl) (by omega) hp (by rw [hk, hh]) hg hF
          · exact absurd hg (hst f (i + 1) _ pc (by omega) (by rw [on_len]; exact hl) (by omega) hp hk)
end

/-- Code that is admitted holds nothing at its end. -/
theorem held_none {ss : List St} (hin : ∀ (i : Nat) (h : i < ss.length), InCode ss.length i ss[i]) (hM : heldM ss = -1) (p : Pu) (hp : p.held = []) : (execM ss ss.length 0 p).held = [] :=
  sound rfl hin ss.length 0 (hInit ss.length) 0 p ss.length (by omega) (by simp [hInit]) (Nat.le_refl _) (Nat.zero_le _) (by simp [hInit, hp]) hM (by omega)
end Go.Proofs.Ytbpolcnjojlkjab.Split

/- splitref's machine: At, known, ways, join. -/
namespace Go.Proofs.Ytbpolcnjojlkjab
open Go.ChangeShapes Go.WideShapes Go.ChangeAt Go.RowKit
open Split (byt byt_lt byt_bd byt_255 St none8 joinM leadM)
set_option linter.unusedVariables false
set_option linter.unusedSimpArgs false

theorem ext_byt (c : ByteArray) (a j : Nat) (h : a + j < c.size) : j < (c.extract a c.size).size ∧ byt (c.extract a c.size) j = byt c (a + j) := by
  have hz : (c.extract a c.size).size = c.size - a := by
    rw [ByteArray.size_extract]; omega
  refine ⟨by omega, ?_⟩
  rw [byt_lt (by omega), byt_lt h]
  congr 2
  exact ByteArray.getElem_extract ..

set_option maxRecDepth 100000 in
set_option maxHeartbeats 2000000 in
theorem at_any (c : ByteArray) (i : Nat) (w : World) (hc : c.size ≤ 600) (hi : i * 5 + 5 ≤ c.size) :
    Calls Try.prog 20 #[.string c, .int .i64 i] w fun e w' => e = .returned (.agg #[.int .u8 (kOf c i), .int .i64 (aOf c i), .int .i64 (bOf c i), .int .i64 (nOf c i)]) ∧ Below w.heap.size w w' := by
  obtain ⟨j, hj⟩ : ∃ j : Nat, i * 5 = j := ⟨_, rfl⟩
  have e0 : (i : Int) * 5 = j := by omega
  obtain ⟨u, hu, l0, l1, l2, l3, l4, q0, q1, q2, q3, q4⟩ : ∃ u, c.extract j c.size = u ∧ ∃ (l0 : 0 < u.size) (l1 : 1 < u.size) (l2 : 2 < u.size) (l3 : 3 < u.size) (l4 : 4 < u.size), (u[0].toNat : Int) = byt c j ∧ (u[1].toNat : Int) = byt c (j + 1) ∧ (u[2].toNat : Int) = byt c (j + 2) ∧ (u[3].toNat : Int) = byt c (j + 3) ∧ (u[4].toNat : Int) = byt c (j + 4) := by
    obtain ⟨l0, q0⟩ := ext_byt c j 0 (by omega)
    obtain ⟨l1, q1⟩ := ext_byt c j 1 (by omega)
    obtain ⟨l2, q2⟩ := ext_byt c j 2 (by omega)
    obtain ⟨l3, q3⟩ := ext_byt c j 3 (by omega)
    obtain ⟨l4, q4⟩ := ext_byt c j 4 (by omega)
    rw [byt_lt l0] at q0
    rw [byt_lt l1] at q1
    rw [byt_lt l2] at q2
    rw [byt_lt l3] at q3
    rw [byt_lt l4] at q4
    exact ⟨_, rfl, l0, l1, l2, l3, l4, q0, q1, q2, q3, q4⟩
  have b0 := byt_bd c (j + 0)
  have b1 := byt_bd c (j + 1)
  have b2 := byt_bd c (j + 2)
  have b3 := byt_bd c (j + 3)
  have b4 := byt_bd c (j + 4)
  unfold kOf aOf bOf nOf
  rw [hj]
  rw [Nat.add_zero] at b0
  generalize byt c j = k at *
  generalize byt c (j + 1) = a at *
  generalize byt c (j + 2) = b at *
  generalize byt c (j + 3) = x at *
  generalize byt c (j + 4) = y at *
  have hjs : (j : Int) ≤ c.size := by omega
  have hwj : wrap64 (j : Int) = j := IntWalk.wrap64_in _ (by omega)
  have hjt : ((j : Int)).toNat = j := by omega
  clear hj hi
  obtain ⟨W, hW⟩ : ∃ W, w.alloc (.cells #[.int .u8 0, .int .i64 0, .int .i64 0, .int .i64 0] 46) = W := ⟨_, rfl⟩
  have hrow : W.heap[w.heap.size]? = some (.cells #[.int .u8 0, .int .i64 0, .int .i64 0, .int .i64 0] 46 (0, 0)) := by rw [← hW]; exact heap_alloc_new _ _
  have hBW : Below w.heap.size w W := by rw [← hW]; exact (Below.refl _ _).alloc (Nat.le_refl _) _
  have HW := hide hW
  have HBW := hide hBW
  have hlW : w.heap.size < W.heap.size := cell_lt hrow
  have r0 := cell_of_row W w.heap.size 0 _ _ _ hrow
  have r1 := cell_of_row W w.heap.size 1 _ _ _ hrow
  have r2 := cell_of_row W w.heap.size 2 _ _ _ hrow
  have r3 := cell_of_row W w.heap.size 3 _ _ _ hrow
  have f0 := frozen_of_row W w.heap.size 0 _ _ hrow
  have f1 := frozen_of_row W w.heap.size 1 _ _ hrow
  have f2 := frozen_of_row W w.heap.size 2 _ _ hrow
  have f3 := frozen_of_row W w.heap.size 3 _ _ hrow
  simp at r0 r1 r2 r3
  clear hW hBW hrow
  have wa : IntKind.i64.wrap a = a := wrap_small (by omega) (by omega)
  have wb : IntKind.i64.wrap b = b := wrap_small (by omega) (by omega)
  have wx : IntKind.i64.wrap x = x := wrap_small (by omega) (by omega)
  have wy : IntKind.i64.wrap y = y := wrap_small (by omega) (by omega)
  have wz : IntKind.i64.wrap (256 * x) = 256 * x := wrap_small (by omega) (by omega)
  have ws : IntKind.i64.wrap (256 * x + y) = 256 * x + y := wrap_small (by omega) (by omega)
  go_enter Try.func20, Try.ntmps20
  go_wp2_with fail
  rw [unhide HW]
  clear hu
  go_region
  go_wp2_with fail
  refine bodyPost_ret (v := .agg #[.int .u8 k, .int .i64 a, .int .i64 b, .int .i64 (256 * x + y)]) (by simp [results, Try.results20, go_sem, r0, r1, r2, r3, hlW]) rfl ?_
  refine ⟨rfl, (unhide HBW).trans (below_of_grown (r := some w.heap.size) (grown_drewN (r := some w.heap.size) ?_ 1) (by omega) (fun k hk => by simp at hk; omega))⟩
  iterate 4 refine grown_set ?_ _ _
  exact grown_refl _ _

theorem known_any (k a b n left : Int) (w : World) : Calls Try.prog 21 #[.agg #[.int .u8 k, .int .i64 a, .int .i64 b, .int .i64 n], .int .i64 left] w fun e w' => e = .returned (.bool (decB k a b left)) ∧ Below w.heap.size w w' := by
  by_cases h80 : k = 80
  · subst h80
    rw [show decB 80 a b left = decide (a < 8) from by simp [decB]]
    go_enter Try.func21, Try.ntmps21
    go_wp2
    go_ret
    exact ⟨rfl, (Below.refl _ _).alloc (Nat.le_refl _) _⟩
  by_cases h67 : k = 67
  · subst h67
    rw [show decB 67 a b left = decide (a < 8) from by simp [decB]]
    go_enter Try.func21, Try.ntmps21
    go_wp2
    go_ret
    exact ⟨rfl, (Below.refl _ _).alloc (Nat.le_refl _) _⟩
  by_cases h82 : k = 82
  · subst h82
    rw [show decB 82 a b left = true from by simp [decB]]
    go_enter Try.func21, Try.ntmps21
    go_wp2
    go_ret
    exact ⟨rfl, (Below.refl _ _).alloc (Nat.le_refl _) _⟩
  by_cases h69 : k = 69
  · subst h69
    rw [show decB 69 a b left = true from by simp [decB]]
    go_enter Try.func21, Try.ntmps21
    go_wp2
    go_ret
    exact ⟨rfl, (Below.refl _ _).alloc (Nat.le_refl _) _⟩
  by_cases h72 : k = 72
  · subst h72
    by_cases ha1 : 1 ≤ a
    · rw [show decB 72 a b left = decide (a ≤ 99) from by simp [decB]; omega]
      go_enter Try.func21, Try.ntmps21
      go_wp2
      go_ret
      exact ⟨rfl, (Below.refl _ _).alloc (Nat.le_refl _) _⟩
    · rw [show decB 72 a b left = false from by simp [decB]; omega]
      go_enter Try.func21, Try.ntmps21
      go_wp2
      go_ret
      exact ⟨rfl, (Below.refl _ _).alloc (Nat.le_refl _) _⟩
  by_cases h74 : k = 74
  · subst h74
    rw [show decB 74 a b left = decide (a ≤ left) from by simp [decB]]
    go_enter Try.func21, Try.ntmps21
    go_wp2
    go_ret
    exact ⟨rfl, (Below.refl _ _).alloc (Nat.le_refl _) _⟩
  by_cases h73 : k = 73
  · subst h73
    by_cases ha1 : a < 8
    · rw [show decB 73 a b left = decide (b ≤ left) from by simp [decB]; omega]
      go_enter Try.func21, Try.ntmps21
      go_wp2
      go_ret
      exact ⟨rfl, (Below.refl _ _).alloc (Nat.le_refl _) _⟩
    · rw [show decB 73 a b left = false from by simp [decB]; omega]
      go_enter Try.func21, Try.ntmps21
      go_wp2
      go_ret
      exact ⟨rfl, (Below.refl _ _).alloc (Nat.le_refl _) _⟩
  rw [(dec_zero h80 h67 h82 h72 h69 h74 h73 a b n left).2]
  have n1 : (k == 80) = false := beq_eq_false_iff_ne.2 h80
  have n2 : (k == 67) = false := beq_eq_false_iff_ne.2 h67
  have n3 : (k == 82) = false := beq_eq_false_iff_ne.2 h82
  have n4 : (k == 72) = false := beq_eq_false_iff_ne.2 h72
  have n5 : (k == 69) = false := beq_eq_false_iff_ne.2 h69
  have n6 : (k == 74) = false := beq_eq_false_iff_ne.2 h74
  have n7 : (k == 73) = false := beq_eq_false_iff_ne.2 h73
  clear h80 h67 h82 h72 h69 h74 h73
  go_enter Try.func21, Try.ntmps21
  go_wp2
  go_ret
  exact ⟨rfl, (Below.refl _ _).alloc (Nat.le_refl _) _⟩

/-- The two places to which an instruction leads. -/
def wayA (k a : Int) (i : Nat) : Int := if k = 74 then i + 1 + a else i + 1
def wayB (k a b : Int) (i : Nat) : Int := if k = 74 then i + 1 + a else if k = 73 then i + 1 + b else i + 1

theorem ways_any (k a b n : Int) (i : Nat) (w : World) (hi : i ≤ 1000) (ha : 0 ≤ a) (ha' : a ≤ 255) (hb : 0 ≤ b) (hb' : b ≤ 255) : Calls Try.prog 31 #[.agg #[.int .u8 k, .int .i64 a, .int .i64 b, .int .i64 n], .int .i64 i] w fun e w' => e = .returned (.tuple #[.int .i64 (wayA k a i), .int .i64 (wayB k a b i)]) ∧ Below w.heap.size w w' := by
  by_cases h4 : k = 74
  · subst h4
    rw [show wayA 74 a i = i + 1 + a from by simp [wayA], show wayB 74 a b i = i + 1 + a from by simp [wayB]]
    obtain ⟨W, hW⟩ : ∃ W, w.alloc (.cells #[.int .u8 74, .int .i64 a, .int .i64 b, .int .i64 n] 46) = W := ⟨_, rfl⟩
    have hrow : W.heap[w.heap.size]? = some (.cells #[.int .u8 74, .int .i64 a, .int .i64 b, .int .i64 n] 46 (0, 0)) := by rw [← hW]; exact heap_alloc_new _ _
    have HBW : Hid (Below w.heap.size w W) := by
      show Below w.heap.size w W
      rw [← hW]; exact (Below.refl _ _).alloc (Nat.le_refl _) _
    have hlW : w.heap.size < W.heap.size := cell_lt hrow
    have r0 := cell_of_row W w.heap.size 0 _ _ _ hrow
    have r1 := cell_of_row W w.heap.size 1 _ _ _ hrow
    have r2 := cell_of_row W w.heap.size 2 _ _ _ hrow
    simp at r0 r1 r2
    have HW := hide hW
    clear hW hrow
    go_enter Try.func31, Try.ntmps31
    go_wp2_with fail
    rw [unhide HW]
    go_quiet (fail)
    go_wp2_with fail
    go_ret2
    exact ⟨rfl, below_drewN (unhide HBW) _⟩
  by_cases h3 : k = 73
  · subst h3
    rw [show wayA 73 a i = i + 1 from by simp [wayA], show wayB 73 a b i = i + 1 + b from by simp [wayB]]
    obtain ⟨W, hW⟩ : ∃ W, w.alloc (.cells #[.int .u8 73, .int .i64 a, .int .i64 b, .int .i64 n] 46) = W := ⟨_, rfl⟩
    have hrow : W.heap[w.heap.size]? = some (.cells #[.int .u8 73, .int .i64 a, .int .i64 b, .int .i64 n] 46 (0, 0)) := by rw [← hW]; exact heap_alloc_new _ _
    have HBW : Hid (Below w.heap.size w W) := by
      show Below w.heap.size w W
      rw [← hW]; exact (Below.refl _ _).alloc (Nat.le_refl _) _
    have hlW : w.heap.size < W.heap.size := cell_lt hrow
    have r0 := cell_of_row W w.heap.size 0 _ _ _ hrow
    have r1 := cell_of_row W w.heap.size 1 _ _ _ hrow
    have r2 := cell_of_row W w.heap.size 2 _ _ _ hrow
    simp at r0 r1 r2
    have HW := hide hW
    clear hW hrow
    go_enter Try.func31, Try.ntmps31
    go_wp2_with fail
    rw [unhide HW]
    go_quiet (fail)
    go_wp2_with fail
    go_ret2
    exact ⟨rfl, below_drewN (unhide HBW) _⟩
  · rw [show wayA k a i = i + 1 from by simp [wayA, h4], show wayB k a b i = i + 1 from by simp [wayB, h4, h3]]
    have n6 : (k == 74) = false := beq_eq_false_iff_ne.2 h4
    have n7 : (k == 73) = false := beq_eq_false_iff_ne.2 h3
    clear h4 h3
    go_enter Try.func31, Try.ntmps31
    go_wp2
    go_ret2
    exact ⟨rfl, (Below.refl _ _).alloc (Nat.le_refl _) _⟩

theorem join_any (o x : Int) (w : World) : Calls Try.prog 32 #[.int .i64 o, .int .i64 x] w fun e w' => e = .returned (.int .i64 (joinM o x)) ∧ w' = w := by
  by_cases h1 : o = -1
  · subst h1
    rw [show joinM (-1) x = x from by simp [joinM]]
    go_enter Try.func32, Try.ntmps32
    go_wp2
    go_ret
    exact ⟨rfl, rfl⟩
  · have n1 : (o == -1) = false := beq_eq_false_iff_ne.2 h1
    by_cases h2 : o = x
    · subst h2
      rw [show joinM o o = o from by simp [joinM]]
      have n2 : (o == o) = true := by simp
      clear h1
      go_enter Try.func32, Try.ntmps32
      go_wp2
      go_ret
      exact ⟨rfl, rfl⟩
    · rw [show joinM o x = -2 from by simp [joinM, h1, h2]]
      have n2 : (o == x) = false := beq_eq_false_iff_ne.2 h2
      clear h1 h2
      go_enter Try.func32, Try.ntmps32
      go_wp2
      go_ret
      exact ⟨rfl, rfl⟩
end Go.Proofs.Ytbpolcnjojlkjab
