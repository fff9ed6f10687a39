/- BookM: the book in plain words: a page, the pages ahead, and what each operation makes of them. -/
import Derived.Test.YtmdjdpofpkgffabShared
namespace Go.Proofs.Ytmdjdpofpkgffab
open Split (Pu Keeps)
open Split
set_option linter.unusedVariables false
set_option linter.unusedSimpArgs false

structure Pg where
  owed : List Int
  pol : ByteArray

structure Bk where
  now : Pg
  past : List Pg

def bk0 : Bk := ⟨⟨List.replicate 8 0, ⟨#[]⟩⟩, []⟩

structure Pg.Ok (p : Pg) : Prop where
  l8 : p.owed.length = 8
  am : ∀ i, 0 ≤ p.owed.getD i 0 ∧ p.owed.getD i 0 ≤ 1000000000
  ck : checkE p.pol = 0

structure Bk.Ok (b : Bk) : Prop where
  now : b.now.Ok
  past : ∀ p ∈ b.past, p.Ok
  few : b.past.length ≤ 12

def Bk.turn (b : Bk) (p : Pg) : Bk := ⟨p, if b.past.length = 12 then b.past.tail ++ [b.now] else b.past ++ [b.now]⟩

theorem Bk.Ok.turn {b : Bk} (h : b.Ok) {p : Pg} (hp : p.Ok) : (b.turn p).Ok := by
  refine ⟨hp, fun q hq => ?_, ?_⟩
  · simp only [Bk.turn] at hq
    split at hq
    · rcases List.mem_append.1 hq with h1 | h1
      · exact h.past q (List.mem_of_mem_tail h1)
      · simp at h1; subst h1; exact h.now
    · rcases List.mem_append.1 hq with h1 | h1
      · exact h.past q h1
      · simp at h1; subst h1; exact h.now
  · have := h.few
    simp only [Bk.turn]
    split
    · simp; omega
    · simp; omega

theorem check_none : checkE ⟨#[]⟩ = 0 := by decide +kernel

theorem bk0_ok : bk0.Ok := by
  refine ⟨⟨by simp [bk0], fun i => ?_, check_none⟩, fun p hp => by simp [bk0] at hp, by simp [bk0]⟩
  simp only [bk0, List.getD_eq_getElem?_getD, List.getElem?_replicate]
  split <;> simp

/-! Install -/
def insB (b : Bk) (t : ByteArray) : Bk := if checkE t = 0 then b.turn ⟨b.now.owed, t⟩ else b
theorem insB_ok {b : Bk} (h : b.Ok) (t : ByteArray) : (insB b t).Ok := by
  unfold insB
  split
  · next hc => exact h.turn ⟨h.now.l8, h.now.am, hc⟩
  · exact h

/-! Charge -/
def bukt (s : ByteArray) : Bool := decide (s.size = 1) && buc (byt s 0)
def bukN (s : ByteArray) : Nat := (byt s 0 - 97).toNat
theorem bukN_lt {s : ByteArray} (h : bukt s = true) : bukN s < 8 := by
  simp only [bukt, Bool.and_eq_true, buc_t] at h
  unfold bukN
  omega
def chgE (p : Pg) (s : ByteArray) (z : Int) : Int := if bukt s = true then (if amt z = true then (if 1000000000 < p.owed.getD (bukN s) 0 + z then 9 else 0) else 5) else 8
def chgL (p : Pg) (s : ByteArray) (z : Int) : List Int := p.owed.set (bukN s) (p.owed.getD (bukN s) 0 + z)
def chgB (b : Bk) (s : ByteArray) (z : Int) : Bk := if chgE b.now s z = 0 then b.turn ⟨chgL b.now s z, b.now.pol⟩ else b

theorem chg_parts {p : Pg} {s : ByteArray} {z : Int} (h : chgE p s z = 0) : bukt s = true ∧ (0 ≤ z ∧ z ≤ 1000000000) ∧ p.owed.getD (bukN s) 0 + z ≤ 1000000000 := by
  unfold chgE at h
  split at h
  · next h1 =>
    split at h
    · next h2 =>
      split at h
      · simp at h
      · next h3 => exact ⟨h1, amt_t.1 h2, by omega⟩
    · simp at h
  · simp at h

theorem getD_set_z (l : List Int) (k i : Nat) (x : Int) : (l.set k x).getD i 0 = if i = k ∧ k < l.length then x else l.getD i 0 := by
  simp only [List.getD_eq_getElem?_getD, List.getElem?_set]
  by_cases hk : k = i
  · subst hk
    by_cases hl : k < l.length
    · simp [hl]
    · simp [hl, List.getElem?_eq_none (show l.length ≤ k by omega)]
  · rw [if_neg hk, if_neg (by omega)]

theorem chgL_ok {p : Pg} (h : p.Ok) {s : ByteArray} {z : Int} (hc : chgE p s z = 0) : Pg.Ok ⟨chgL p s z, p.pol⟩ := by
  obtain ⟨h1, h2, h3⟩ := chg_parts hc
  refine ⟨by simp [chgL, h.l8], fun i => ?_, h.ck⟩
  have h4 := h.am i
  have h5 := h.am (bukN s)
  simp only [chgL, getD_set_z]
  split
  · omega
  · exact h4
theorem chgB_ok {b : Bk} (h : b.Ok) (s : ByteArray) (z : Int) : (chgB b s z).Ok := by
  unfold chgB
  split
  · next hc => exact h.turn (chgL_ok h.now hc)
  · exact h

/-! Pay -/
def lessZ (o p : List Int) (k : Nat) : List Int := (List.range 8).map fun i => if i < k then o.getD i 0 - p.getD i 0 else o.getD i 0
def payE (p : Pg) (m : Int) : Int := shE p.pol p.owed m
def payL (p : Pg) (m : Int) : List Int := shL p.pol p.owed m
def payR (p : Pg) (m : Int) : Int := shR p.pol p.owed m
def payB (b : Bk) (m : Int) : Bk := if payE b.now m = 0 then b.turn ⟨lessZ b.now.owed (payL b.now m) 8, b.now.pol⟩ else b

theorem getD_range8 (f : Nat → Int) (i : Nat) : ((List.range 8).map f).getD i 0 = if i < 8 then f i else 0 := by
  simp only [List.getD_eq_getElem?_getD, List.getElem?_map]
  by_cases h : i < 8
  · rw [List.getElem?_range h]; simp [h]
  · rw [List.getElem?_eq_none (by simp; omega)]; simp [h]

theorem given_page {p : Pg} (h : p.Ok) (m : Int) : givenE p.owed m = if amt m = true then 0 else 5 := by
  have hb : badAt p.owed = 8 := given_end (m := m) h.l8 fun j _ => amt_t.2 (h.am j)
  simp [givenE, h.l8, hb]
theorem payE_page {p : Pg} (h : p.Ok) (m : Int) : payE p m = if amt m = true then 0 else 5 := by
  simp only [payE, shE, h.ck, if_true]
  exact given_page h m

/-- What a payment pays: eight numbers, none above what is owed. -/
theorem pay_parts {p : Pg} (h : p.Ok) {m : Int} (hE : payE p m = 0) : (payL p m).length = 8 ∧ (∀ i, 0 ≤ (payL p m).getD i 0 ∧ (payL p m).getD i 0 ≤ p.owed.getD i 0) ∧ 0 ≤ payR p m ∧ payR p m + (payL p m).sum = m ∧ payR p m ≤ 1000000000 := by
  have hg : givenE p.owed m = 0 := by
    have := hE
    simp only [payE, shE, h.ck, if_true] at this
    exact this
  obtain ⟨hk, hh⟩ := shr_keeps h.ck hg
  have e1 : payL p m = (shrM p.pol p.owed m).paid := by
    have : shE p.pol p.owed m = 0 := hE
    simp [payL, shL, this]
  have e2 : payR p m = (shrM p.pol p.owed m).hand := by
    have : shE p.pol p.owed m = 0 := hE
    simp [payR, shR, this]
  rw [e1, e2]
  have hs := hk.sum
  rw [hh] at hs
  simp only [List.sum_nil, Int.add_zero] at hs
  have hp0 : 0 ≤ (shrM p.pol p.owed m).paid.sum := Split.sum_nonneg _ fun x hx => by
    obtain ⟨j, hj, rfl⟩ := List.getElem_of_mem hx
    have := hk.pa j
    simpa [List.getElem?_eq_getElem hj] using this
  refine ⟨hk.lp, fun i => ⟨hk.pa i, ?_⟩, hk.h0, hs, ?_⟩
  · have h1 := hk.tot i
    have h2 := hk.ow i
    omega
  · have := hk.top
    omega

theorem lessZ_len (o p : List Int) (k : Nat) : (lessZ o p k).length = 8 := by simp [lessZ]
theorem lessZ_at (o p : List Int) (k i : Nat) (hi : i < 8) : (lessZ o p k).getD i 0 = if i < k then o.getD i 0 - p.getD i 0 else o.getD i 0 := by
  rw [lessZ, getD_range8, if_pos hi]
theorem lessZ_zero {o : List Int} (h : o.length = 8) (p : List Int) : lessZ o p 0 = o := by
  apply List.ext_getElem (by simp [lessZ, h])
  intro i h1 h2
  simp [lessZ, List.getElem?_eq_getElem h2]
theorem lessZ_succ (o p : List Int) (k : Nat) (hk : k < 8) : (lessZ o p k).set k (o.getD k 0 - p.getD k 0) = lessZ o p (k + 1) := by
  apply List.ext_getElem (by simp [lessZ])
  intro i h1 h2
  rw [List.getElem_set]
  simp only [lessZ, List.getElem_map, List.getElem_range]
  by_cases e : k = i
  · subst e; simp
  · rw [if_neg e]
    by_cases h : i < k
    · rw [if_pos h, if_pos (by omega)]
    · rw [if_neg h, if_neg (by omega)]

theorem payB_page {p : Pg} (h : p.Ok) {m : Int} (hE : payE p m = 0) : Pg.Ok ⟨lessZ p.owed (payL p m) 8, p.pol⟩ := by
  obtain ⟨h1, h2, _⟩ := pay_parts h hE
  refine ⟨lessZ_len _ _ _, fun i => ?_, h.ck⟩
  have h3 := h.am i
  have h4 := h2 i
  rw [lessZ, getD_range8]
  by_cases hi : i < 8
  · rw [if_pos hi, if_pos hi]; omega
  · rw [if_neg hi]; omega
theorem payB_ok {b : Bk} (h : b.Ok) (m : Int) : (payB b m).Ok := by
  unfold payB
  split
  · next hc => exact h.turn (payB_page h.now hc)
  · exact h

/-! Undo -/
def undE (b : Bk) : Int := if b.past = [] then 10 else 0
def undB (b : Bk) : Bk := match b.past.getLast? with
  | none => b
  | some p => ⟨p, b.past.dropLast⟩
theorem undB_ok {b : Bk} (h : b.Ok) : (undB b).Ok := by
  unfold undB
  split
  · exact h
  · next p hp =>
    refine ⟨h.past p (List.mem_of_getLast? hp), fun q hq => h.past q (List.dropLast_subset _ hq), ?_⟩
    have := h.few
    simp; omega
theorem und_turn (b : Bk) (p : Pg) : undE (b.turn p) = 0 ∧ (undB (b.turn p)).now = b.now := by
  unfold undE undB Bk.turn
  by_cases h : b.past.length = 12
  · simp [h]
  · simp [h]
end Go.Proofs.Ytmdjdpofpkgffab
