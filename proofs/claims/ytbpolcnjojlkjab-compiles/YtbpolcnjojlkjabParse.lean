/- split's parse and Check. -/
import Derived.Test.YtbpolcnjojlkjabReadAll
namespace Go.Proofs.Ytbpolcnjojlkjab
open Go.ChangeShapes Go.WideShapes Go.ChangeAt Go.RowKit
open Split (byt St)
set_option linter.unusedVariables false
set_option linter.unusedSimpArgs false

def rs0 : RS := ⟨0, false, [], [], -1⟩
/-- The reader behind the whole text. -/
def rsE (t : ByteArray) : RS := finM (runM t (t.size + 1) rs0)
def parE (t : ByteArray) : Int := if 120 < t.size then 1 else if (rsE t).bad = true then 2 else if 0 ≤ (rsE t).deep then 3 else 0
def parP (t : ByteArray) : Int := if 120 < t.size then 0 else if (rsE t).bad = true then (rsE t).a else if 0 ≤ (rsE t).deep then (rsE t).deep else 0

theorem inv0 (t : ByteArray) : Inv t rs0 := ⟨by simp [rs0], by simp [rs0], Nat.zero_le _, fun o ho => by simp [rs0] at ho⟩

def ParsePost (t : ByteArray) (w : World) (e : Ending) (w' : World) : Prop :=
  ∃ vs, e = .returned (.tuple #[vs, .int .i64 (parE t), .int .i64 (parP t)]) ∧ (parE t = 0 → w'.ownsRow w.heap.size 63 12 vs (rsE t).ss.length (flat (rsE t).ss)) ∧ (parE t ≠ 0 → vs = .slice none 0 0) ∧ Below w.heap.size w w'

theorem ret3_s {vs : Value} {a b c d : Int} (h : a = c) (k : b = d) : Ending.returned (.tuple #[vs, .int .i64 a, .int .i64 b]) = .returned (.tuple #[vs, .int .i64 c, .int .i64 d]) := by rw [h, k]

theorem own_less {w : World} {base base' : Nat} {e : TypeId} {size : Nat} {v : Value} {n : Nat} {xs : List Value} (h : w.ownsRow base e size v n xs) (hb : base' ≤ base) : w.ownsRow base' e size v n xs := by
  refine ⟨h.1, ?_⟩
  rcases h.2 with h0 | ⟨g, cap, cur, hv, hg, r⟩
  · exact .inl h0
  · exact .inr ⟨g, cap, cur, hv, by omega, r⟩

set_option maxHeartbeats 4000000 in
theorem parse_any (t : ByteArray) (w : World) (hs : t.size ≤ 1000000000000000) : Calls Try.prog 17 #[.string t] w (ParsePost t w) := by
  by_cases hl : 120 < t.size
  · have e1 : parE t = 1 := by simp [parE, hl]
    have e2 : parP t = 0 := by simp [parP, hl]
    have E := hide (And.intro e1 e2)
    clear e1 e2
    go_enter Try.func17, Try.ntmps17
    go_wp2_with fail
    go_ret3
    unfold ParsePost
    rw [(unhide E).1, (unhide E).2]
    exact ⟨_, rfl, fun h => by simp at h, fun _ => rfl, Below.refl _ _⟩
  · have hm : meas t rs0 = t.size + 1 := by simp [meas, rs0]
    have hread := readAll_any w.heap.size t rs0 (w.alloc (.cells #[.string t, .int .i64 0, .bool false, .slice none 0 0, .slice none 0 0, .int .i64 (-1)] 59))
      ⟨.slice none 0 0, .slice none 0 0, heap_alloc_new _ _, World.ownsRow_nil _ _ _ _, World.ownsRow_nil _ _ _ _⟩ (inv0 t) (by omega)
    rw [hm] at hread
    have hE : (rsE t).bad = true ∨ ((rsE t).bad = false ∧ 0 ≤ (rsE t).deep) ∨ ((rsE t).bad = false ∧ ¬ 0 ≤ (rsE t).deep) := by
      cases (rsE t).bad <;> simp <;> omega
    have HR := hide hread
    clear hread hm
    obtain ⟨r, hr⟩ : ∃ r, rsE t = r := ⟨_, rfl⟩
    have HRR := hide hr
    rw [hr] at hE
    clear hr
    obtain ⟨a, bad, ss, op, deep⟩ := r
    dsimp only at hE
    rcases hE with rfl | ⟨rfl, hd⟩ | ⟨rfl, hd⟩
    · have E : Hid (parE t = 2 ∧ parP t = a) := by
        show parE t = 2 ∧ parP t = a
        simp [parE, parP, hl, unhide HRR]
      go_enter Try.func17, Try.ntmps17
      go_wp2_with fail
      refine (unhide HR).mono ?_
      rintro e w1 ⟨rfl, h1, b1⟩
      have h1' : RAs w1 w.heap.size t (rsE t) := h1
      rw [unhide HRR] at h1'
      obtain ⟨vs, vo, hRB, hSo, hOo⟩ := h1'
      dsimp only at hRB hSo hOo
      have c1 := hRB.c1
      have c2 := hRB.c2
      have B1 := hide (((Below.refl _ _).alloc (Nat.le_refl _) _).trans b1)
      clear h1 b1 hRB hSo hOo
      go_wp2_with fail
      go_quiet (fail)
      go_wp2_with fail
      go_ret3
      unfold ParsePost
      rw [(unhide E).1, (unhide E).2]
      exact ⟨_, rfl, fun h => by simp at h, fun _ => rfl, below_drewN (unhide B1) _⟩
    · have E : Hid (parE t = 3 ∧ parP t = deep) := by
        show parE t = 3 ∧ parP t = deep
        simp [parE, parP, hl, unhide HRR, hd]
      go_enter Try.func17, Try.ntmps17
      go_wp2_with fail
      refine (unhide HR).mono ?_
      rintro e w1 ⟨rfl, h1, b1⟩
      have h1' : RAs w1 w.heap.size t (rsE t) := h1
      rw [unhide HRR] at h1'
      obtain ⟨vs, vo, hRB, hSo, hOo⟩ := h1'
      dsimp only at hRB hSo hOo
      have c2 := hRB.c2
      have c5 := hRB.c5
      have B1 := hide (((Below.refl _ _).alloc (Nat.le_refl _) _).trans b1)
      clear h1 b1 hRB hSo hOo
      go_wp2_with fail
      go_quiet (fail)
      go_wp2_with fail
      go_ret3
      unfold ParsePost
      rw [(unhide E).1, (unhide E).2]
      exact ⟨_, rfl, fun h => by simp at h, fun _ => rfl, below_drewN (unhide B1) _⟩
    · have E : Hid (parE t = 0 ∧ parP t = 0) := by
        show parE t = 0 ∧ parP t = 0
        simp [parE, parP, hl, unhide HRR, hd]
      go_enter Try.func17, Try.ntmps17
      go_wp2_with fail
      refine (unhide HR).mono ?_
      rintro e w1 ⟨rfl, h1, b1⟩
      have h1' : RAs w1 w.heap.size t (rsE t) := h1
      rw [unhide HRR] at h1'
      obtain ⟨vs, vo, hRB, hSo, hOo⟩ := h1'
      dsimp only at hRB hSo hOo
      have c2 := hRB.c2
      have c3 := hRB.c3
      have c5 := hRB.c5
      have B1 := hide (((Below.refl _ _).alloc (Nat.le_refl _) _).trans b1)
      obtain ⟨sa, scap, rfl, hsc, hsa⟩ := own_slice hSo
      have HS := hide hSo
      clear h1 b1 hRB hSo hOo hsa
      go_wp2_with fail
      go_ret3
      unfold ParsePost
      rw [(unhide E).1, (unhide E).2, unhide HRR]
      exact ⟨_, rfl, fun _ => own_less (unhide HS) (by omega), fun h => absurd rfl h, unhide B1⟩

end Go.Proofs.Ytbpolcnjojlkjab
