/- RefOps: New, Owed, turn, Undo of the document's book. -/
import Derived.Test.YtmdjdpofpkgffabRefMem
import Derived.ArgAppend
import Derived.Deep.RegionLaw
namespace Go.Proofs.Ytmdjdpofpkgffab
open Go.ChangeShapes Go.WideShapes Go.ChangeAt Go.RowKit
open Split
set_option linter.unusedVariables false
set_option linter.unusedSimpArgs false

theorem infoPage : (Try.prog.info? 97).map (fun i => (i.zero, i.size, i.bytes)) = some (some (.agg #[.slice none 0 0, .string ⟨#[]⟩]), 2, 40) := by kernel_rfl

/-- The blocks of pages among S. -/
def paged (S : Nat → Prop) (w : World) : Nat → Prop := fun k => S k ∧ ∃ cur fr, w.heap[k]? = some (.cells cur 97 fr)

theorem pages_room {w : World} {S : Nat → Prop} {g off cp : Nat} {cur : Array Value} {ps : List Pg} (hS : S g) (hin : ∀ k, S k → k < w.heap.size) (hg : w.heap[g]? = some (.cells cur 97 (0, 0))) (hroom : ps.length + 1 ≤ cp) (hsz : off + cp * 2 ≤ cur.size)
    (hps : ∀ k p, ps[k]? = some p → ∃ a c, cur[off + k * 2]? = some (.slice a 8 c) ∧ cur[off + k * 2 + 1]? = some (.string p.pol) ∧ L8 w S a p.owed) (q : Pg) (qa : Option Addr) (qc : Nat) (hq : L8 w S qa q.owed) :
    RPast (w.setCells g (off + ps.length * 2) [.slice qa 8 qc, .string q.pol]) S (some ⟨g, off, none⟩) cp (ps ++ [q]) ∧ Fr (paged S w) w (w.setCells g (off + ps.length * 2) [.slice qa 8 qc, .string q.pol]) := by
  have hk : ∀ k, S k → ∀ c fr, w.heap[k]? = some (.cells c 3 fr) → (w.setCells g (off + ps.length * 2) [.slice qa 8 qc, .string q.pol]).heap[k]? = w.heap[k]? := by
    intro k hSk c fr hc
    have hne : k ≠ g := by
      intro e
      subst e
      rw [hg] at hc
      simp at hc
    simp only [World.setCells]
    rw [Below.heap_setCell _ _ _ _ hne, Below.heap_setCell _ _ _ _ hne]
  refine ⟨⟨.inr ⟨g, off, _, rfl, hS, heap_setCells_same _ _ _ _ hg, by simpa using hroom, by rw [putL_size]; exact hsz, fun k p hp => ?_⟩⟩, Fr.sets (.inl ⟨hS, cur, _, hg⟩) _ _ _ (Fr.refl _ _)⟩
  rw [List.getElem?_append] at hp
  by_cases e : k < ps.length
  · rw [if_pos e] at hp
    obtain ⟨a, c, h1, h2, h3⟩ := hps k p hp
    refine ⟨a, c, ?_, ?_, h3.keep hk fun _ h => h⟩
    · rw [putL_out _ _ _ _ (by simp; omega)]; exact h1
    · rw [putL_out _ _ _ _ (by simp; omega)]; exact h2
  · rw [if_neg e] at hp
    have hk' : k = ps.length := by
      have := (List.getElem?_eq_some_iff.1 hp).1
      simp at this; omega
    subst hk'
    obtain rfl : q = p := by simpa using hp
    refine ⟨qa, qc, ?_, ?_, hq.keep hk fun _ h => h⟩
    · have := putL_in [.slice qa 8 qc, .string q.pol] (off + ps.length * 2) cur 0 (by simp; omega) (by simp)
      simpa using this
    · have := putL_in [.slice qa 8 qc, .string q.pol] (off + ps.length * 2) cur 1 (by simp; omega) (by simp)
      simpa using this

/-- The cells of the pages ahead, in a row. -/
def oldsOf (cur : Array Value) (off n : Nat) : List Value := (List.range (n * 2)).map fun j => cur.getD (off + j) undef
theorem oldsOf_at (cur : Array Value) (off n j : Nat) (hj : j < n * 2) (hs : off + n * 2 ≤ cur.size) : (oldsOf cur off n)[j]? = cur[off + j]? := by
  simp only [oldsOf, List.getElem?_map, List.getElem?_range hj, Option.map_some]
  rw [Array.getElem?_eq_getElem (by omega)]
  simp [Array.getD, show off + j < cur.size by omega]

theorem pages_grown {w w' : World} {S : Nat → Prop} {v' : Value} {ps : List Pg} {olds : List Value} (hin : ∀ k, S k → k < w.heap.size)
    (hps : ∀ k p, ps[k]? = some p → ∃ a c, olds[k * 2]? = some (.slice a 8 c) ∧ olds[k * 2 + 1]? = some (.string p.pol) ∧ L8 w S a p.owed) (hol : olds.length = ps.length * 2) (q : Pg) (qa : Option Addr) (qc : Nat) (hq : L8 w S qa q.owed)
    (hown : w'.ownsRow w.heap.size 97 2 v' (ps.length + 1) (olds ++ [.slice qa 8 qc, .string q.pol])) (hg : w.grownBy w' none) :
    ∃ ap cp, v' = .slice ap (ps.length + 1) cp ∧ RPast w' (grow S w w') ap cp (ps ++ [q]) ∧ Fr (paged S w) w w' := by
  rcases hown.2 with ⟨_, h0⟩ | ⟨g, cap, cur, rfl, hb, hh, hc1, hc2, hsz, htk⟩
  · omega
  have hk : ∀ k, S k → ∀ c fr, w.heap[k]? = some (.cells c 3 fr) → w'.heap[k]? = w.heap[k]? := fun k hSk _ _ _ => hg.block k (hin k hSk) (by simp)
  have hw : ∀ k, S k → grow S w w' k := fun k h => .inl h
  have hcur : ∀ j, j < (ps.length + 1) * 2 → cur[0 + j]? = (olds ++ [.slice qa 8 qc, .string q.pol])[j]? := by
    intro j hj
    rw [← htk, List.getElem?_take, if_pos hj, Nat.zero_add, Array.getElem?_toList]
  refine ⟨_, cap, rfl, ⟨.inr ⟨g, 0, cur, rfl, .inr ⟨hb, cell_lt hh⟩, hh, by simpa using hc1, by omega, fun k p hp => ?_⟩⟩, ⟨hg.os, hg.tape, hg.output, hg.size, fun k hk _ => hg.block k hk (by simp)⟩⟩
  rw [List.getElem?_append] at hp
  by_cases e : k < ps.length
  · rw [if_pos e] at hp
    obtain ⟨a, c, h1, h2, h3⟩ := hps k p hp
    refine ⟨a, c, ?_, ?_, h3.keep hk hw⟩
    · rw [hcur _ (by omega), List.getElem?_append_left (by omega)]; exact h1
    · rw [Nat.add_assoc, hcur _ (by omega), List.getElem?_append_left (by omega)]; exact h2
  · rw [if_neg e] at hp
    have hk' : k = ps.length := by
      have := (List.getElem?_eq_some_iff.1 hp).1
      simp at this; omega
    subst hk'
    obtain rfl : q = p := by simpa using hp
    refine ⟨qa, qc, ?_, ?_, hq.keep hk hw⟩
    · rw [hcur _ (by omega), List.getElem?_append_right (by omega), show ps.length * 2 - olds.length = 0 by omega]; rfl
    · rw [Nat.add_assoc, hcur _ (by omega), List.getElem?_append_right (by omega), show ps.length * 2 + 1 - olds.length = 1 by omega]; rfl

theorem news_at {w : World} {ad : Addr} {x y : Value} (n0 : w.cell? (ad.add 0) = some x) (n1 : w.cell? (ad.add 1) = some y) : ∀ j u, [x, y][j]? = some u → w.cell? (ad.add j) = some u := by
  intro j u hj
  match j, hj with
  | 0, hj => simp at hj; subst hj; exact n0
  | 1, hj => simp at hj; subst hj; exact n1

/-- A page is appended to those ahead. -/
theorem step_append_pages {ops : Array Oper} {o : Oper} {a : Act} {w : World} {K : Act → World → Prop} {Q : Exit → Act → World → Prop} {E : Prop}
    (hg : o.guard = none) (s x : Operand) (hop : o.op = Op.call { callee := Callee.builtin Builtin.append, args := #[s, x], argTypes := #[98, 98] })
    (S : Nat → Prop) (ap : Option Addr) (n cp : Nat) (ps : List Pg) (hlen : ps.length = n) (hs : a.eval s = .slice ap n cp) (hp : RPast w S ap cp ps) (hin : ∀ k, S k → k < w.heap.size) (few : ps.length ≤ 12)
    (ad : Addr) (c : Nat) (hx : a.eval x = .slice (some ad) 1 c) (q : Pg) (qa : Option Addr) (qc : Nat) (n0 : w.cell? (ad.add 0) = some (.slice qa 8 qc)) (n1 : w.cell? (ad.add 1) = some (.string q.pol)) (hq : L8 w S qa q.owed)
    (hK : ∀ ap' cp' w', RPast w' (grow S w w') ap' cp' (ps ++ [q]) → Fr (paged S w) w w' → K (a.put o.dst (.slice ap' (n + 1) cp')) w') :
    if Region.wanted o (yielded ops a.tmps) = true then Oper.wp Try.prog o a w K Q else E := by
  obtain ⟨i0, hi, hz0, hz1, hz2⟩ := info_parts infoPage
  have hone : ∀ u ∈ [Value.slice qa 8 qc, Value.string q.pol], u.oneCell' = true := by
    intro u hu
    simp at hu
    rcases hu with rfl | rfl <;> rfl
  subst hlen
  rcases hp.ex with ⟨rfl, rfl, rfl⟩ | ⟨g, off, cur, rfl, hS, hh, hle, hsz, hps⟩
  · have hw : Region.wanted o (yielded ops a.tmps) = true := by simp [Region.wanted, hg]
    rw [if_pos hw]
    obtain ⟨v', w', hrun, h2, h3, _⟩ := run_append_own (P := Try.prog) w w.heap.size 98 o.type 97 i0 _ 2 40 Try.underlying98 hi hz0 hz1 hz2 rfl (by decide) (.slice none 0 0) 0 [] (World.ownsRow_nil w _ _ _) ad 1 c [.slice qa 8 qc, .string q.pol] rfl (news_at n0 n1) hone (by unfold maxLen; omega) (by omega) (Nat.le_refl _)
    obtain ⟨ap', cp', rfl, h4, h5⟩ := pages_grown (ps := []) (olds := []) hin (fun k p hp => by simp at hp) rfl q qa qc hq h2 (by simpa [Value.ownBlock] using h3)
    unfold Oper.wp
    simp only [List.length_nil] at hs
    simp [execOp, hop, resolve, invoke, builtin, hs, hx, hrun, Result.andThen]
    exact hK _ _ _ h4 h5
  · by_cases hroom : ps.length + 1 ≤ cp
    · obtain ⟨r1, r2⟩ := pages_room hS hin hh hroom hsz hps q qa qc hq
      refine step_append_room hg s x 98 hop 97 i0 2 Try.underlying98 hi hz1 g off ps.length cp hs ad 1 c [.slice qa 8 qc, .string q.pol] hx rfl (news_at n0 n1) hone hroom (fun j hj => ?_) ?_
      · simp only [List.length_cons, List.length_nil] at hj
        refine ⟨?_, frozen_of_row w g _ _ _ hh⟩
        rw [cell_of_row w g _ _ _ _ hh, Array.getElem?_eq_getElem (by omega)]
        rfl
      · exact hK _ _ _ ⟨(r1.keep (fun _ _ _ _ _ _ _ => rfl) (fun k h => (.inl h : grow S w _ k))).ex⟩ r2
    · have hw : Region.wanted o (yielded ops a.tmps) = true := by simp [Region.wanted, hg]
      rw [if_pos hw]
      have hcp : cp = ps.length := by omega
      have hol : (oldsOf cur off ps.length).length = ps.length * 2 := by simp [oldsOf]
      obtain ⟨v', w', hrun, h2, h3⟩ := run_append_arg_grows (P := Try.prog) w 98 o.type 97 i0 _ 2 40 Try.underlying98 hi hz0 hz1 hz2 rfl (by decide) ⟨g, off, none⟩ ps.length cp (oldsOf cur off ps.length) hol (fun j u hj => by
          have hjl : j < ps.length * 2 := by rw [← hol]; exact (List.getElem?_eq_some_iff.1 hj).1
          rw [Addr.add_lit, cell_of_row w g _ _ _ _ hh, ← oldsOf_at cur off ps.length j hjl (by omega)]
          exact hj) ad 1 c [.slice qa 8 qc, .string q.pol] rfl (news_at n0 n1) (by omega) (by unfold maxLen; omega) (by omega)
      obtain ⟨ap', cp', rfl, h4, h5⟩ := pages_grown (ps := ps) (olds := oldsOf cur off ps.length) hin (fun k p hp => by
          obtain ⟨a, c, h1, h2, h3⟩ := hps k p hp
          have hkl : k < ps.length := (List.getElem?_eq_some_iff.1 hp).1
          refine ⟨a, c, ?_, ?_, h3⟩
          · rw [oldsOf_at _ _ _ _ (by omega) (by omega)]; exact h1
          · rw [oldsOf_at _ _ _ _ (by omega) (by omega), ← Nat.add_assoc]; exact h2) hol q qa qc hq h2 h3
      unfold Oper.wp
      simp [execOp, hop, resolve, invoke, builtin, hs, hx, hrun, Result.andThen]
      exact hK _ _ _ h4 h5
end Go.Proofs.Ytmdjdpofpkgffab
