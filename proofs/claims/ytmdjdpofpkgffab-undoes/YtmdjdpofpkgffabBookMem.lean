/- BookMem: which blocks have changed; the program's book in memory. -/
import Derived.Test.YtmdjdpofpkgffabBookM
namespace Go.Proofs.Ytmdjdpofpkgffab
open Go.ChangeShapes Go.WideShapes Go.ChangeAt Go.RowKit
set_option linter.unusedVariables false
set_option linter.unusedSimpArgs false

/-- Only blocks of S, and new ones, have changed. -/
structure Fr (S : Nat → Prop) (w w' : World) : Prop where
  os : w'.os = w.os
  tape : w'.tape = w.tape
  output : w'.output = w.output
  size : w.heap.size ≤ w'.heap.size
  block : ∀ k, k < w.heap.size → ¬ S k → w'.heap[k]? = w.heap[k]?

theorem Fr.refl (S : Nat → Prop) (w : World) : Fr S w w := ⟨rfl, rfl, rfl, Nat.le_refl _, fun _ _ _ => rfl⟩
theorem Fr.trans {S S' : Nat → Prop} {a b c : World} (h : Fr S a b) (k : Fr S' b c) (hs : ∀ i, S' i → S i ∨ a.heap.size ≤ i) : Fr S a c :=
  ⟨k.os.trans h.os, k.tape.trans h.tape, k.output.trans h.output, Nat.le_trans h.size k.size, fun i hi hn => by
    rw [k.block i (Nat.lt_of_lt_of_le hi h.size) (fun hx => by rcases hs i hx with h1 | h1; exact hn h1; omega)]
    exact h.block i hi hn⟩
theorem Fr.mono {S S' : Nat → Prop} {a b : World} (h : Fr S a b) (hs : ∀ i, i < a.heap.size → S i → S' i) : Fr S' a b :=
  ⟨h.os, h.tape, h.output, h.size, fun i hi hn => h.block i hi fun hx => hn (hs i hi hx)⟩
theorem Fr.of_below {S : Nat → Prop} {w w' : World} (h : Below w.heap.size w w') : Fr S w w' := ⟨h.os, h.tape, h.output, h.size, fun k hk _ => h.block k hk⟩
theorem Fr.below {S : Nat → Prop} {w w' : World} {B : Nat} (h : Fr S w w') (hB : B ≤ w.heap.size) (hs : ∀ i, S i → B ≤ i) : Below B w w' :=
  ⟨h.os, h.tape, h.output, h.size, fun k hk => h.block k (by omega) fun hx => by have := hs k hx; omega⟩
theorem Fr.set {S : Nat → Prop} {w w' : World} (h : Fr S w w') {p : Addr} (hp : S p.block ∨ w.heap.size ≤ p.block) (v : Value) : Fr S w (w'.setCell p v) :=
  ⟨h.os, h.tape, h.output, by simpa [World.setCell] using h.size, fun k hk hn => by
    rw [Below.heap_setCell _ _ _ _ (fun e => by subst e; rcases hp with h1 | h1; exact hn h1; omega)]
    exact h.block k hk hn⟩
theorem Fr.alloc {S : Nat → Prop} {w w' : World} (h : Fr S w w') (o : Obj) : Fr S w (w'.alloc o) :=
  ⟨h.os, h.tape, h.output, by simp; have := h.size; omega, fun k hk hn => by
    rw [Below.heap_alloc _ _ _ (Nat.lt_of_lt_of_le hk h.size)]
    exact h.block k hk hn⟩
theorem Fr.drewN {S : Nat → Prop} {w w' : World} (h : Fr S w w') (n : Nat) : Fr S w (w'.drewN n) := ⟨h.os, h.tape, h.output, h.size, h.block⟩
theorem Fr.drew {S : Nat → Prop} {w w' : World} (h : Fr S w w') : Fr S w w'.drew := ⟨h.os, h.tape, h.output, h.size, h.block⟩
theorem Fr.ints {S : Nat → Prop} {w w' : World} (h : Fr S w w') {a : Option Addr} {n : Nat} {zs : List Int} (hi : Ints w a n zs) (hs : ∀ p, a = some p → ¬ S p.block) : Ints w' a n zs := by
  refine ⟨hi.1, fun hp => ?_⟩
  obtain ⟨b, off, e, hc⟩ := hi.2 hp
  refine ⟨b, off, e, fun i hl => ?_⟩
  have hlt : b < w.heap.size := by
    have := hc i hl
    by_cases hx : b < w.heap.size
    · exact hx
    · simp [World.cell?, hx] at this
  rw [World.cell?_of_block (w := w) (a := ⟨b, off + i, none⟩) (h.block b hlt (hs _ e))]
  exact hc i hl

/-! A row of cells, some of them written over. -/
def putL (cur : Array Value) : Nat → List Value → Array Value
  | _, [] => cur
  | o, v :: r => putL (cur.setIfInBounds o v) (o + 1) r
theorem putL_size : ∀ (vs : List Value) (o : Nat) (cur : Array Value), (putL cur o vs).size = cur.size
  | [], _, _ => rfl
  | v :: r, o, cur => by rw [putL, putL_size r]; simp
theorem putL_out : ∀ (vs : List Value) (o : Nat) (cur : Array Value) (i : Nat), (i < o ∨ o + vs.length ≤ i) → (putL cur o vs)[i]? = cur[i]?
  | [], _, _, _, _ => rfl
  | v :: r, o, cur, i, h => by
    simp only [List.length_cons] at h
    rw [putL, putL_out r _ _ i (by omega), Array.getElem?_setIfInBounds, if_neg (by omega)]
theorem putL_in : ∀ (vs : List Value) (o : Nat) (cur : Array Value) (j : Nat), o + vs.length ≤ cur.size → j < vs.length → (putL cur o vs)[o + j]? = vs[j]?
  | [], _, _, _, _, h => by simp at h
  | v :: r, o, cur, j, h, hj => by
    simp only [List.length_cons] at h hj
    rw [putL]
    cases j with
    | zero => rw [putL_out r _ _ _ (by omega), Array.getElem?_setIfInBounds, if_pos (by omega), if_pos (by omega)]; simp
    | succ j =>
      rw [show o + (j + 1) = (o + 1) + j by omega, putL_in r (o + 1) _ j (by simp; omega) (by omega)]
      simp
theorem heap_setCells_same {P : Nat} {T : TypeId} : ∀ (vs : List Value) (o : Nat) (w : World) (cur : Array Value), w.heap[P]? = some (.cells cur T (0, 0)) → (w.setCells P o vs).heap[P]? = some (.cells (putL cur o vs) T (0, 0))
  | [], _, _, _, h => h
  | v :: r, o, w, cur, h => by
    rw [World.setCells, putL]
    exact heap_setCells_same r (o + 1) _ _ (heap_setCell_same w P o _ _ v h)
theorem Fr.sets {S : Nat → Prop} {w : World} {P : Nat} (hp : S P ∨ w.heap.size ≤ P) : ∀ (vs : List Value) (o : Nat) (w' : World), Fr S w w' → Fr S w (w'.setCells P o vs)
  | [], _, _, h => h
  | v :: r, o, w', h => by
    rw [World.setCells]
    exact Fr.sets hp r (o + 1) _ (h.set (p := ⟨P, o, none⟩) hp v)

/-! The program's book: nine cells a page; the page at hand, twelve pages, how many of them are remembered. -/
structure PgAt (cur : Array Value) (o : Nat) (p : Pg) : Prop where
  num : ∀ i, i < 8 → cur[o + i]? = some (.int .i64 (p.owed.getD i 0))
  txt : cur[o + 8]? = some (.string p.pol)

def pgV (p : Pg) : List Value := [.int .i64 (p.owed.getD 0 0), .int .i64 (p.owed.getD 1 0), .int .i64 (p.owed.getD 2 0), .int .i64 (p.owed.getD 3 0), .int .i64 (p.owed.getD 4 0), .int .i64 (p.owed.getD 5 0), .int .i64 (p.owed.getD 6 0), .int .i64 (p.owed.getD 7 0), .string p.pol]
theorem pgV_num (p : Pg) (i : Nat) (hi : i < 8) : (pgV p)[i]? = some (.int .i64 (p.owed.getD i 0)) := by
  match i, hi with
  | 0, _ | 1, _ | 2, _ | 3, _ | 4, _ | 5, _ | 6, _ | 7, _ => rfl
theorem pgAt_put {cur : Array Value} {o : Nat} (p : Pg) (h : o + 9 ≤ cur.size) : PgAt (putL cur o (pgV p)) o p := by
  refine ⟨fun i hi => ?_, ?_⟩
  · rw [putL_in _ _ _ _ (by simpa [pgV] using h) (by simp [pgV]; omega)]
    exact pgV_num p i hi
  · rw [putL_in _ _ _ _ (by simpa [pgV] using h) (by simp [pgV])]
    rfl
theorem PgAt.put {cur : Array Value} {o o' : Nat} {p : Pg} (h : PgAt cur o p) (q : Pg) (ho : o + 9 ≤ o' ∨ o' + 9 ≤ o) : PgAt (putL cur o' (pgV q)) o p := by
  refine ⟨fun i hi => ?_, ?_⟩
  · rw [putL_out _ _ _ _ (by simp only [pgV, List.length_cons, List.length_nil]; omega)]
    exact h.num i hi
  · rw [putL_out _ _ _ _ (by simp only [pgV, List.length_cons, List.length_nil]; omega)]
    exact h.txt
theorem PgAt.set {cur : Array Value} {o : Nat} {p : Pg} (h : PgAt cur o p) (i : Nat) (v : Value) (ho : o + 9 ≤ i ∨ i < o) : PgAt (cur.setIfInBounds i v) o p := by
  refine ⟨fun j hj => ?_, ?_⟩
  · rw [Array.getElem?_setIfInBounds, if_neg (by omega)]
    exact h.num j hj
  · rw [Array.getElem?_setIfInBounds, if_neg (by omega)]
    exact h.txt

structure SRow (w : World) (P : Nat) (now : Pg) (ps : List Pg) (c : Int) : Prop where
  few : ps.length ≤ 12
  row : ∃ cur : Array Value, w.heap[P]? = some (.cells cur 90 (0, 0)) ∧ cur.size = 118 ∧ PgAt cur 0 now ∧ (∀ k p, ps[k]? = some p → PgAt cur (9 + k * 9) p) ∧ cur[117]? = some (.int .i64 c)

def SBk (w : World) (P : Nat) (b : Bk) : Prop := SRow w P b.now b.past b.past.length

section
variable {w w' : World} {P : Nat} {now : Pg} {ps : List Pg} {c : Int}

theorem SRow.lt (h : SRow w P now ps c) : P < w.heap.size := by
  obtain ⟨cur, h1, _⟩ := h.row
  exact cell_lt h1
theorem SRow.keep (h : SRow w P now ps c) (e : w'.heap[P]? = w.heap[P]?) : SRow w' P now ps c := by
  obtain ⟨cur, h1, h2⟩ := h.row
  exact ⟨h.few, cur, e.trans h1, h2⟩
theorem SRow.below {B : Nat} (h : SRow w P now ps c) (hb : Below B w w') (hP : P < B) : SRow w' P now ps c := h.keep (hb.block P hP)
theorem SRow.fr {S : Nat → Prop} (h : SRow w P now ps c) (hf : Fr S w w') (hP : ¬ S P) : SRow w' P now ps c := h.keep (hf.block P h.lt hP)
theorem SRow.owed (h : SRow w P now ps c) (i : Nat) (hi : i < 8) : w.cell? ⟨P, i, none⟩ = some (.int .i64 (now.owed.getD i 0)) := by
  obtain ⟨cur, h1, h2, h3, _⟩ := h.row
  rw [cell_of_row w P i _ _ _ h1]
  have := h3.num i hi
  rwa [Nat.zero_add] at this
theorem SRow.pol (h : SRow w P now ps c) : w.cell? ⟨P, 8, none⟩ = some (.string now.pol) := by
  obtain ⟨cur, h1, h2, h3, _⟩ := h.row
  rw [cell_of_row w P 8 _ _ _ h1]
  exact h3.txt
theorem SRow.count (h : SRow w P now ps c) : w.cell? ⟨P, 117, none⟩ = some (.int .i64 c) := by
  obtain ⟨cur, h1, h2, h3, h4, h5⟩ := h.row
  rw [cell_of_row w P 117 _ _ _ h1]
  exact h5
theorem SRow.frozen (h : SRow w P now ps c) (i : Nat) : w.frozen? ⟨P, i, none⟩ = false := by
  obtain ⟨cur, h1, _⟩ := h.row
  exact frozen_of_row w P i _ _ h1
/-- Each cell of the book is there. -/
theorem SRow.has (h : SRow w P now ps c) (i : Nat) (hi : i < 118) : ∃ v, w.cell? ⟨P, i, none⟩ = some v := by
  obtain ⟨cur, h1, h2, _⟩ := h.row
  rw [cell_of_row w P i _ _ _ h1]
  exact ⟨_, Array.getElem?_eq_getElem (by omega)⟩
theorem SRow.setCount (h : SRow w P now ps c) (c' : Int) : SRow (w.setCell ⟨P, 117, none⟩ (.int .i64 c')) P now ps c' := by
  obtain ⟨cur, h1, h2, h3, h4, h5⟩ := h.row
  refine ⟨h.few, _, heap_setCell_same w P 117 _ _ _ h1, by simpa using h2, h3.set _ _ (by omega), fun k p hp => ?_, ?_⟩
  · have hk : k < ps.length := (List.getElem?_eq_some_iff.1 hp).1
    have := h.few
    exact (h4 k p hp).set _ _ (by omega)
  · rw [Array.getElem?_setIfInBounds, if_pos rfl, if_pos (by omega)]
theorem SRow.setPage (h : SRow w P now ps c) (m : Nat) (hm : m < ps.length) (q : Pg) : SRow (w.setCells P (9 + m * 9) (pgV q)) P now (ps.set m q) c := by
  obtain ⟨cur, h1, h2, h3, h4, h5⟩ := h.row
  have hf := h.few
  refine ⟨by simpa using hf, _, heap_setCells_same _ _ _ _ h1, by rw [putL_size]; exact h2, h3.put _ (by omega), fun k p hp => ?_, ?_⟩
  · rw [List.getElem?_set] at hp
    by_cases e : m = k
    · subst e
      rw [if_pos rfl, if_pos hm] at hp
      obtain rfl : q = p := by simpa using hp
      exact pgAt_put _ (by omega)
    · rw [if_neg e] at hp
      exact (h4 k p hp).put _ (by omega)
  · rw [putL_out _ _ _ _ (by simp only [pgV, List.length_cons, List.length_nil]; omega)]
    exact h5
theorem SRow.push (h : SRow w P now ps c) (hm : ps.length < 12) (q : Pg) : SRow (w.setCells P (9 + ps.length * 9) (pgV q)) P now (ps ++ [q]) c := by
  obtain ⟨cur, h1, h2, h3, h4, h5⟩ := h.row
  refine ⟨by simp; omega, _, heap_setCells_same _ _ _ _ h1, by rw [putL_size]; exact h2, h3.put _ (by omega), fun k p hp => ?_, ?_⟩
  · rw [List.getElem?_append] at hp
    by_cases e : k < ps.length
    · rw [if_pos e] at hp
      exact (h4 k p hp).put _ (by omega)
    · rw [if_neg e] at hp
      have hk : k = ps.length := by
        have := (List.getElem?_eq_some_iff.1 hp).1
        simp at this; omega
      subst hk
      obtain rfl : q = p := by simpa using hp
      exact pgAt_put _ (by omega)
  · rw [putL_out _ _ _ _ (by simp only [pgV, List.length_cons, List.length_nil]; omega)]
    exact h5
theorem SRow.setNow (h : SRow w P now ps c) (q : Pg) : SRow (w.setCells P 0 (pgV q)) P q ps c := by
  obtain ⟨cur, h1, h2, h3, h4, h5⟩ := h.row
  refine ⟨h.few, _, heap_setCells_same _ _ _ _ h1, by rw [putL_size]; exact h2, pgAt_put _ (by omega), fun k p hp => (h4 k p hp).put _ (by omega), ?_⟩
  rw [putL_out _ _ _ _ (by simp only [pgV, List.length_cons, List.length_nil]; omega)]
  exact h5
theorem SRow.setPol (h : SRow w P now ps c) (t : ByteArray) : SRow (w.setCell ⟨P, 8, none⟩ (.string t)) P ⟨now.owed, t⟩ ps c := by
  obtain ⟨cur, h1, h2, h3, h4, h5⟩ := h.row
  refine ⟨h.few, _, heap_setCell_same w P 8 _ _ _ h1, by simpa using h2, ⟨fun i hi => ?_, ?_⟩, fun k p hp => (h4 k p hp).set _ _ (by omega), ?_⟩
  · rw [Array.getElem?_setIfInBounds, if_neg (by omega)]
    exact h3.num i hi
  · rw [Array.getElem?_setIfInBounds, if_pos (by omega), if_pos (by omega)]
  · rw [Array.getElem?_setIfInBounds, if_neg (by omega)]
    exact h5
theorem SRow.setOwed (h : SRow w P now ps c) (i : Nat) (hi : i < now.owed.length) (h8 : now.owed.length = 8) (x : Int) : SRow (w.setCell ⟨P, i, none⟩ (.int .i64 x)) P ⟨now.owed.set i x, now.pol⟩ ps c := by
  obtain ⟨cur, h1, h2, h3, h4, h5⟩ := h.row
  refine ⟨h.few, _, heap_setCell_same w P i _ _ _ h1, by simpa using h2, ⟨fun j hj => ?_, ?_⟩, fun k p hp => (h4 k p hp).set _ _ (by omega), ?_⟩
  · rw [Array.getElem?_setIfInBounds]
    by_cases e : i = 0 + j
    · rw [if_pos e, if_pos (by omega)]
      rw [Nat.zero_add] at e
      subst e
      rw [getD_set_z, if_pos ⟨rfl, hi⟩]
    · rw [if_neg e, getD_set_z, if_neg (by omega)]
      exact h3.num j hj
  · rw [Array.getElem?_setIfInBounds, if_neg (by omega)]
    exact h3.txt
  · rw [Array.getElem?_setIfInBounds, if_neg (by omega)]
    exact h5
/-- Fewer pages are remembered. -/
theorem SRow.less (h : SRow w P now ps c) (n : Nat) : SRow w P now (ps.take n) c := by
  obtain ⟨cur, h1, h2, h3, h4, h5⟩ := h.row
  refine ⟨by have := h.few; simp; omega, cur, h1, h2, h3, fun k p hp => ?_, h5⟩
  rw [List.getElem?_take] at hp
  split at hp
  · exact h4 k p hp
  · simp at hp
end

theorem set9 (w : World) (P o : Nat) (v0 v1 v2 v3 v4 v5 v6 v7 v8 : Value) : w.setCells P o [v0, v1, v2, v3, v4, v5, v6, v7, v8] =
    ((((((((w.setCell ⟨P, o, none⟩ v0).setCell ⟨P, o + 1, none⟩ v1).setCell ⟨P, o + 2, none⟩ v2).setCell ⟨P, o + 3, none⟩ v3).setCell ⟨P, o + 4, none⟩ v4).setCell ⟨P, o + 5, none⟩ v5).setCell ⟨P, o + 6, none⟩ v6).setCell ⟨P, o + 7, none⟩ v7).setCell ⟨P, o + 8, none⟩ v8 := by
  simp only [World.setCells, Nat.add_assoc, Nat.reduceAdd]
theorem SRow.drew {w : World} {P : Nat} {now : Pg} {ps : List Pg} {c : Int} (h : SRow w P now ps c) : SRow w.drew P now ps c := h.keep rfl
theorem SRow.drewN {w : World} {P : Nat} {now : Pg} {ps : List Pg} {c : Int} (h : SRow w P now ps c) (n : Nat) : SRow (w.drewN n) P now ps c := h.keep rfl

/-- Nine cells of a book, from o on. -/
structure Nine (w : World) (P o : Nat) (x0 x1 x2 x3 x4 x5 x6 x7 : Int) (s : ByteArray) : Prop where
  c0 : w.cell? ⟨P, o, none⟩ = some (.int .i64 x0)
  c1 : w.cell? ⟨P, o + 1, none⟩ = some (.int .i64 x1)
  c2 : w.cell? ⟨P, o + 2, none⟩ = some (.int .i64 x2)
  c3 : w.cell? ⟨P, o + 3, none⟩ = some (.int .i64 x3)
  c4 : w.cell? ⟨P, o + 4, none⟩ = some (.int .i64 x4)
  c5 : w.cell? ⟨P, o + 5, none⟩ = some (.int .i64 x5)
  c6 : w.cell? ⟨P, o + 6, none⟩ = some (.int .i64 x6)
  c7 : w.cell? ⟨P, o + 7, none⟩ = some (.int .i64 x7)
  c8 : w.cell? ⟨P, o + 8, none⟩ = some (.string s)
structure Nine' (w : World) (P o : Nat) (x0 x1 x2 x3 x4 x5 x6 x7 x8 : Value) : Prop where
  c0 : w.cell? ⟨P, o, none⟩ = some x0
  c1 : w.cell? ⟨P, o + 1, none⟩ = some x1
  c2 : w.cell? ⟨P, o + 2, none⟩ = some x2
  c3 : w.cell? ⟨P, o + 3, none⟩ = some x3
  c4 : w.cell? ⟨P, o + 4, none⟩ = some x4
  c5 : w.cell? ⟨P, o + 5, none⟩ = some x5
  c6 : w.cell? ⟨P, o + 6, none⟩ = some x6
  c7 : w.cell? ⟨P, o + 7, none⟩ = some x7
  c8 : w.cell? ⟨P, o + 8, none⟩ = some x8

theorem SRow.nine_at {w : World} {P : Nat} {now : Pg} {ps : List Pg} {c : Int} {cur : Array Value} (hr : w.heap[P]? = some (.cells cur 90 (0, 0))) {o : Nat} {p : Pg} (hp : PgAt cur o p) :
    ∃ x0 x1 x2 x3 x4 x5 x6 x7 s, pgV p = [.int .i64 x0, .int .i64 x1, .int .i64 x2, .int .i64 x3, .int .i64 x4, .int .i64 x5, .int .i64 x6, .int .i64 x7, .string s] ∧ Nine w P o x0 x1 x2 x3 x4 x5 x6 x7 s := by
  refine ⟨_, _, _, _, _, _, _, _, _, rfl, ?_⟩
  refine ⟨?_, ?_, ?_, ?_, ?_, ?_, ?_, ?_, ?_⟩ <;> rw [cell_of_row w P _ _ _ _ hr]
  · exact hp.num 0 (by omega)
  · exact hp.num 1 (by omega)
  · exact hp.num 2 (by omega)
  · exact hp.num 3 (by omega)
  · exact hp.num 4 (by omega)
  · exact hp.num 5 (by omega)
  · exact hp.num 6 (by omega)
  · exact hp.num 7 (by omega)
  · exact hp.txt
theorem SRow.nine {w : World} {P : Nat} {now : Pg} {ps : List Pg} {c : Int} (h : SRow w P now ps c) {k : Nat} {p : Pg} (hp : ps[k]? = some p) :
    ∃ x0 x1 x2 x3 x4 x5 x6 x7 s, pgV p = [.int .i64 x0, .int .i64 x1, .int .i64 x2, .int .i64 x3, .int .i64 x4, .int .i64 x5, .int .i64 x6, .int .i64 x7, .string s] ∧ Nine w P (9 + k * 9) x0 x1 x2 x3 x4 x5 x6 x7 s := by
  obtain ⟨cur, h1, h2, h3, h4, h5⟩ := h.row
  exact SRow.nine_at (now := now) (ps := ps) (c := c) h1 (h4 k p hp)
theorem SRow.nine0 {w : World} {P : Nat} {now : Pg} {ps : List Pg} {c : Int} (h : SRow w P now ps c) :
    ∃ x0 x1 x2 x3 x4 x5 x6 x7 s, pgV now = [.int .i64 x0, .int .i64 x1, .int .i64 x2, .int .i64 x3, .int .i64 x4, .int .i64 x5, .int .i64 x6, .int .i64 x7, .string s] ∧ Nine w P 0 x0 x1 x2 x3 x4 x5 x6 x7 s := by
  obtain ⟨cur, h1, h2, h3, h4, h5⟩ := h.row
  exact SRow.nine_at (now := now) (ps := ps) (c := c) h1 h3
theorem SRow.any9 {w : World} {P : Nat} {now : Pg} {ps : List Pg} {c : Int} (h : SRow w P now ps c) (o : Nat) (ho : o + 9 ≤ 118) :
    ∃ x0 x1 x2 x3 x4 x5 x6 x7 x8, Nine' w P o x0 x1 x2 x3 x4 x5 x6 x7 x8 := by
  obtain ⟨x0, h0⟩ := h.has o (by omega)
  obtain ⟨x1, h1⟩ := h.has (o + 1) (by omega)
  obtain ⟨x2, h2⟩ := h.has (o + 2) (by omega)
  obtain ⟨x3, h3⟩ := h.has (o + 3) (by omega)
  obtain ⟨x4, h4⟩ := h.has (o + 4) (by omega)
  obtain ⟨x5, h5⟩ := h.has (o + 5) (by omega)
  obtain ⟨x6, h6⟩ := h.has (o + 6) (by omega)
  obtain ⟨x7, h7⟩ := h.has (o + 7) (by omega)
  obtain ⟨x8, h8⟩ := h.has (o + 8) (by omega)
  exact ⟨x0, x1, x2, x3, x4, x5, x6, x7, x8, h0, h1, h2, h3, h4, h5, h6, h7, h8⟩

/-- k pages have been moved forward by one. -/
def pgNone : Pg := ⟨[], ⟨#[]⟩⟩
def shf (ps : List Pg) (k : Nat) : List Pg := (List.range 12).map fun m => if m < k then ps.getD (m + 1) pgNone else ps.getD m pgNone
theorem shf_len (ps : List Pg) (k : Nat) : (shf ps k).length = 12 := by simp [shf]
theorem shf_at (ps : List Pg) (k m : Nat) (hm : m < 12) : (shf ps k)[m]? = some (if m < k then ps.getD (m + 1) pgNone else ps.getD m pgNone) := by
  simp [shf, List.getElem?_map, List.getElem?_range hm]
theorem shf_zero {ps : List Pg} (h : ps.length = 12) : shf ps 0 = ps := by
  apply List.ext_getElem (by rw [shf_len, h])
  intro i h1 h2
  simp [shf, List.getElem?_eq_getElem h2]
theorem shf_succ {ps : List Pg} (h : ps.length = 12) (k : Nat) (hk : k < 11) : (shf ps k).set k (ps.getD (k + 1) pgNone) = shf ps (k + 1) := by
  apply List.ext_getElem (by simp [shf])
  intro i h1 h2
  rw [List.getElem_set]
  simp only [shf, List.getElem_map, List.getElem_range]
  by_cases e : k = i
  · subst e; simp
  · rw [if_neg e]
    by_cases h : i < k
    · rw [if_pos h, if_pos (by omega)]
    · rw [if_neg h, if_neg (by omega)]
theorem shf_end {ps : List Pg} (h : ps.length = 12) : (shf ps 11).take 11 = ps.tail := by
  apply List.ext_getElem (by simp [shf_len, h])
  intro i h1 h2
  have hi : i < 11 := by simp [h] at h2; omega
  rw [List.getElem_take, List.getElem_tail]
  simp only [shf, List.getElem_map, List.getElem_range]
  rw [if_pos hi]
  simp [List.getElem?_eq_getElem (show i + 1 < ps.length by omega)]
end Go.Proofs.Ytmdjdpofpkgffab
