/- RefAct -/
import Derived.Test.YtbpolcnjojlkjabPack15
import Derived.Test.YtbpolcnjojlkjabPack27
import Derived.Test.YtbpolcnjojlkjabPack5

/- splitref's act. -/
namespace Go.Proofs.Ytbpolcnjojlkjab
open Go.ChangeShapes Go.WideShapes Go.ChangeAt Go.RowKit
open Split (St SOk Pu Keeps payM propM holdM backM doM skipM none8)
set_option linter.unusedVariables false
set_option linter.unusedSimpArgs false

/-- The document's machine: its state in blocks T, L, Q, its stack in a row of its own. -/
structure Mach (w : World) (B T L Q sb : Nat) (vs : Value) (p : Pu) : Prop where
  st : RSt w T L Q p
  own : w.ownsRow sb 3 1 vs p.held.length (p.held.map (Value.int .i64))
  t : T < sb
  l : L < sb
  q : Q < sb
  bt : B ≤ T
  bl : B ≤ L
  bq : B ≤ Q
  le : sb ≤ w.heap.size

section
variable {w w' : World} {B T L Q sb : Nat} {vs : Value} {p p' : Pu}
theorem Mach.on (h : Mach w B T L Q sb vs p) (ho : On T L Q w w') (hs : RSt w' T L Q p') (hh : p'.held = p.held) : Mach w' B T L Q sb vs p' := by
  refine ⟨hs, ?_, h.t, h.l, h.q, h.bt, h.bl, h.bq, Nat.le_trans h.le ho.size⟩
  rw [hh]
  refine ⟨h.own.1, ?_⟩
  rcases h.own.2 with ⟨q, q'⟩ | ⟨g', cap', cur, q, q1, q2, q3⟩
  · exact .inl ⟨q, q'⟩
  · have hg := h.t
    have hl := h.l
    have hq := h.q
    exact .inr ⟨g', cap', cur, q, q1, by rw [ho.block g' (cell_lt q2) (by omega) (by omega) (by omega)]; exact q2, q3⟩
theorem Mach.below (h : Mach w B T L Q sb vs p) (hb : Below w.heap.size w w') : Mach w' B T L Q sb vs p :=
  ⟨h.st.other (hb.block T h.st.lt.1) (hb.block L h.st.lt.2.1) (hb.block Q h.st.lt.2.2), own_step h.own hb, h.t, h.l, h.q, h.bt, h.bl, h.bq, Nat.le_trans h.le hb.size⟩
theorem Mach.bb (h : Mach w B T L Q sb vs p) : B ≤ w.heap.size := by
  have := h.bt; have := h.st.lt.1; omega
theorem Mach.app (h : Mach w B T L Q sb vs p) {x : Obj} {v' : Value} {z : Int} (hown : w'.ownsRow sb 3 1 v' (p.held.length + 1) (p.held.map (Value.int .i64) ++ [.int .i64 z])) (hgrow : (w.alloc x).grownBy w' vs.ownBlock) : RSt w' T L Q p ∧ (∀ pt : Int, Mach (w'.setCell ⟨T, 0, none⟩ (.int .i64 pt)) B T L Q sb v' ⟨pt, p.held ++ [z], p.owed, p.paid⟩) ∧ ∀ pt : Value, Below B w (w'.setCell ⟨T, 0, none⟩ pt) := by
  have hlt := h.st.lt
  have e1 : w'.heap[T]? = w.heap[T]? := (hgrow.block T (by simp; omega) (own_base h.own h.t)).trans (Go.heap_alloc_old _ _ hlt.1)
  have e2 : w'.heap[L]? = w.heap[L]? := (hgrow.block L (by simp; omega) (own_base h.own h.l)).trans (Go.heap_alloc_old _ _ hlt.2.1)
  have e3 : w'.heap[Q]? = w.heap[Q]? := (hgrow.block Q (by simp; omega) (own_base h.own h.q)).trans (Go.heap_alloc_old _ _ hlt.2.2)
  have hR := h.st.other e1 e2 e3
  have hsz : w.heap.size ≤ w'.heap.size := by have := hgrow.size; simp at this; omega
  have hb : Below B w w' := ((Below.refl B w).alloc (by have := h.bt; omega) x).trans (below_of_grown hgrow (by have := h.bt; simp; omega) (fun k hk => by have := (h.own.lt k hk).1; have := h.bt; have := h.t; omega))
  refine ⟨hR, fun pt => ⟨(hR.hand pt).any _ rfl rfl rfl, ?_, h.t, h.l, h.q, h.bt, h.bl, h.bq, by have := h.le; simp [World.setCell]; omega⟩, fun pt => hb.setCell (p := ⟨T, 0, none⟩) h.bt _⟩
  have := World.ownsRow.kept hown (grown_set (grown_refl _ _) 0 (.int .i64 pt)) (own_ne hown h.t)
  rw [List.length_append, List.map_append]
  exact this
theorem Mach.onB (h : Mach w B T L Q sb vs p) (ho : On T L Q w w') : Below B w w' := ho.below h.bb h.bt h.bl h.bq
end

def ActPost (B T L Q sb i : Nat) (s : St) (p : Pu) (w : World) (e : Ending) (w' : World) : Prop :=
  ∃ vs', e = .returned (.tuple #[.int .i64 ((i : Int) + 1 + (skipM s p : Nat)), vs']) ∧ Mach w' B T L Q sb vs' (doM s p) ∧ Below B w w'

def ActOk (k a b m : Int) : Prop :=
  ∀ (B T L Q sb i : Nat) (va : Option Addr) (vl vc : Nat) (p : Pu) (M : Int) (o0 : List Int) (w : World), i ≤ 200 → Mach w B T L Q sb (.slice va vl vc) p → Keeps M o0 p → p.held.length ≤ 10 → (k = 69 → p.held ≠ []) →
    Calls Try.prog 24 #[.pointer (some ⟨T, 0, none⟩), .agg #[.int .u8 k, .int .i64 a, .int .i64 b, .int .i64 m], .int .i64 i, .slice va vl vc] w (ActPost B T L Q sb i (decS k a b m) p w)

/-- The box of the instruction, and behind the ways. -/
theorem box_ways {w : World} {B T L Q sb : Nat} {vs : Value} {p : Pu} {x : Obj} {w2 : World} (h : Mach w B T L Q sb vs p) (hb : Below (w.alloc x).heap.size (w.alloc x) w2) : Mach w2 B T L Q sb vs p ∧ Below B w w2 ∧ w2.heap[w.heap.size]? = (w.alloc x).heap[w.heap.size]? := by
  have h1 : Below w.heap.size w (w.alloc x) := (Below.refl _ _).alloc (Nat.le_refl _) _
  refine ⟨(h.below h1).below hb, (below_step h1 hb).mono h.bb, hb.block _ (by simp)⟩

set_option maxRecDepth 100000 in
set_option maxHeartbeats 4000000 in
theorem act_P (a b m : Int) (ha : 0 ≤ a) (ha8 : a < 8) (hb0 : 0 ≤ b) (hb255 : b ≤ 255) : ActOk 80 a b m := by
  intro B T L Q sb i va vl vc p M o0 w hi h hk hl _
  have e1 : decS 80 a b m = ⟨80, a, 0, none8, 0⟩ := rfl
  obtain ⟨a', hae⟩ : ∃ n : Nat, a = n := ⟨a.toNat, by omega⟩
  subst hae
  have e2 : doM ⟨80, (a' : Int), 0, none8, 0⟩ p = payM p a' 1000000000 := by simp [doM]
  have e3 : skipM ⟨80, (a' : Int), 0, none8, 0⟩ p = 0 := by simp [skipM]
  unfold ActPost
  rw [e1, e2, e3]
  have HM := hide h
  have HK := hide hk
  have hwy := fun w' => ways_any 80 (a' : Int) b m i w' (by omega) ha (by omega) hb0 hb255
  rw [show wayA 80 (a' : Int) i = i + 1 from by simp [wayA], show wayB 80 (a' : Int) b i = i + 1 from by simp [wayB]] at hwy
  have HWY := hide hwy
  clear h hk hwy e1 e2 e3
  go_enter Try.func24, Try.ntmps24
  go_wp2_with fail
  refine (unhide HWY _).mono ?_
  rintro e w2 ⟨rfl, hb2⟩
  obtain ⟨hM2, hB2, hrow⟩ := box_ways (unhide HM) hb2
  rw [heap_alloc_new] at hrow
  have hl2 : w.heap.size < w2.heap.size := cell_lt hrow
  have c0 := cell_of_row w2 w.heap.size 0 _ _ _ hrow
  have c1 := cell_of_row w2 w.heap.size 1 _ _ _ hrow
  have c2 := cell_of_row w2 w.heap.size 2 _ _ _ hrow
  have c3 := cell_of_row w2 w.heap.size 3 _ _ _ hrow
  simp at c0 c1 c2 c3
  have M2 := hide hM2
  have B2 := hide hB2
  clear hb2 hM2 hB2 hrow HWY
  go_wp2_with fail
  refine (upto_any T L Q p M o0 a' 1000000000 _ (unhide M2).st (unhide HK) (by omega) (by omega)).mono ?_
  rintro e w3 ⟨rfl, h3, g3⟩
  have M3 : Hid (Mach w3 B T L Q sb (.slice va vl vc) (payM p a' 1000000000)) := (unhide M2).on g3 h3 rfl
  have B3 := hide ((unhide B2).trans ((unhide M2).onB g3))
  clear h3 g3
  go_wp2_with fail
  go_ret2
  exact ⟨_, by first | rfl | simp, unhide M3, unhide B3⟩
set_option maxRecDepth 100000 in
set_option maxHeartbeats 4000000 in
theorem act_C (a b m : Int) (ha : 0 ≤ a) (ha8 : a < 8) (hb0 : 0 ≤ b) (hb255 : b ≤ 255) (hm0 : 0 ≤ m) (hm9 : m ≤ 65535) : ActOk 67 a b m := by
  intro B T L Q sb i va vl vc p M o0 w hi h hk hl _
  have e1 : decS 67 a b m = ⟨67, a, m, none8, 0⟩ := rfl
  obtain ⟨a', hae⟩ : ∃ n : Nat, a = n := ⟨a.toNat, by omega⟩
  subst hae
  have e2 : doM ⟨67, (a' : Int), m, none8, 0⟩ p = payM p a' m := by simp [doM]
  have e3 : skipM ⟨67, (a' : Int), m, none8, 0⟩ p = 0 := by simp [skipM]
  unfold ActPost
  rw [e1, e2, e3]
  have HM := hide h
  have HK := hide hk
  have hwy := fun w' => ways_any 67 (a' : Int) b m i w' (by omega) (by omega) (by omega) (by omega) (by omega)
  rw [show wayA 67 (a' : Int) i = i + 1 from by simp [wayA], show wayB 67 (a' : Int) b i = i + 1 from by simp [wayB]] at hwy
  have HWY := hide hwy
  clear h hk hwy e1 e2 e3
  go_enter Try.func24, Try.ntmps24
  go_wp2_with fail
  refine (unhide HWY _).mono ?_
  rintro e w2 ⟨rfl, hb2⟩
  obtain ⟨hM2, hB2, hrow⟩ := box_ways (unhide HM) hb2
  rw [heap_alloc_new] at hrow
  have hl2 : w.heap.size < w2.heap.size := cell_lt hrow
  have c0 := cell_of_row w2 w.heap.size 0 _ _ _ hrow
  have c1 := cell_of_row w2 w.heap.size 1 _ _ _ hrow
  have c2 := cell_of_row w2 w.heap.size 2 _ _ _ hrow
  have c3 := cell_of_row w2 w.heap.size 3 _ _ _ hrow
  simp at c0 c1 c2 c3
  have M2 := hide hM2
  have B2 := hide hB2
  clear hb2 hM2 hB2 hrow HWY
  go_wp2_with fail
  refine (upto_any T L Q p M o0 a' m _ (unhide M2).st (unhide HK) (by omega) hm0).mono ?_
  rintro e w3 ⟨rfl, h3, g3⟩
  have M3 : Hid (Mach w3 B T L Q sb (.slice va vl vc) (payM p a' m)) := (unhide M2).on g3 h3 rfl
  have B3 := hide ((unhide B2).trans ((unhide M2).onB g3))
  clear h3 g3
  go_wp2_with fail
  go_ret2
  exact ⟨_, by first | rfl | simp, unhide M3, unhide B3⟩

set_option maxRecDepth 100000 in
set_option maxHeartbeats 4000000 in
theorem act_J (a b m : Int) (ha : 0 ≤ a) (ha8 : a ≤ 255) (hb0 : 0 ≤ b) (hb255 : b ≤ 255) : ActOk 74 a b m := by
  intro B T L Q sb i va vl vc p M o0 w hi h hk hl _
  have e1 : decS 74 a b m = ⟨74, 0, 0, none8, a⟩ := rfl
  obtain ⟨a', hae⟩ : ∃ n : Nat, a = n := ⟨a.toNat, by omega⟩
  subst hae
  have e2 : doM ⟨74, 0, 0, none8, (a' : Int)⟩ p = p := by simp [doM]
  have e3 : skipM ⟨74, 0, 0, none8, (a' : Int)⟩ p = a' := by simp [skipM]
  unfold ActPost
  rw [e1, e2, e3]
  have HM := hide h
  have HK := hide hk
  have hwy := fun w' => ways_any 74 (a' : Int) b m i w' (by omega) (by omega) (by omega) (by omega) (by omega)
  rw [show wayA 74 (a' : Int) i = i + 1 + a' from by simp [wayA], show wayB 74 (a' : Int) b i = i + 1 + a' from by simp [wayB]] at hwy
  have HWY := hide hwy
  clear h hk hwy e1 e2 e3
  go_enter Try.func24, Try.ntmps24
  go_wp2_with fail
  refine (unhide HWY _).mono ?_
  rintro e w2 ⟨rfl, hb2⟩
  obtain ⟨hM2, hB2, hrow⟩ := box_ways (unhide HM) hb2
  rw [heap_alloc_new] at hrow
  have hl2 : w.heap.size < w2.heap.size := cell_lt hrow
  have c0 := cell_of_row w2 w.heap.size 0 _ _ _ hrow
  have c1 := cell_of_row w2 w.heap.size 1 _ _ _ hrow
  have c2 := cell_of_row w2 w.heap.size 2 _ _ _ hrow
  have c3 := cell_of_row w2 w.heap.size 3 _ _ _ hrow
  simp at c0 c1 c2 c3
  have M2 := hide hM2
  have B2 := hide hB2
  clear hb2 hM2 hB2 hrow HWY
  go_wp2_with fail
  go_ret2
  exact ⟨_, by first | rfl | simp, unhide M2, unhide B2⟩

set_option maxRecDepth 100000 in
set_option maxHeartbeats 4000000 in
theorem act_I (a b m : Int) (ha : 0 ≤ a) (ha8 : a < 8) (hb0 : 0 ≤ b) (hb255 : b ≤ 255) (hm0 : 0 ≤ m) (hm9 : m ≤ 65535) : ActOk 73 a b m := by
  intro B T L Q sb i va vl vc p M o0 w hi h hk hl _
  have e1 : decS 73 a b m = ⟨73, a, m, none8, b⟩ := rfl
  obtain ⟨a', hae⟩ : ∃ n : Nat, a = n := ⟨a.toNat, by omega⟩
  subst hae
  obtain ⟨b', hbe⟩ : ∃ n : Nat, b = n := ⟨b.toNat, by omega⟩
  subst hbe
  have e2 : doM ⟨73, (a' : Int), m, none8, (b' : Int)⟩ p = p := by simp [doM]
  have ha8' : (a' : Int) < 8 := ha8
  unfold ActPost
  rw [e1, e2]
  by_cases hle : p.owed.getD a' 0 ≤ m
  · have e3 : skipM ⟨73, (a' : Int), m, none8, (b' : Int)⟩ p = b' := by
      unfold skipM
      dsimp only
      rw [if_neg (by decide), if_pos rfl, Int.toNat_natCast, Int.toNat_natCast, if_pos hle]
    rw [e3]
    have HM := hide h
    have HK := hide hk
    have hwy := fun w' => ways_any 73 (a' : Int) (b' : Int) m i w' (by omega) (by omega) (by omega) (by omega) (by omega)
    rw [show wayA 73 (a' : Int) i = i + 1 from by simp [wayA], show wayB 73 (a' : Int) (b' : Int) i = i + 1 + b' from by simp [wayB]] at hwy
    have HWY := hide hwy
    clear h hk hwy e1 e2 e3
    go_enter Try.func24, Try.ntmps24
    go_wp2_with fail
    refine (unhide HWY _).mono ?_
    rintro e w2 ⟨rfl, hb2⟩
    obtain ⟨hM2, hB2, hrow⟩ := box_ways (unhide HM) hb2
    rw [heap_alloc_new] at hrow
    have hl2 : w.heap.size < w2.heap.size := cell_lt hrow
    have c0 := cell_of_row w2 w.heap.size 0 _ _ _ hrow
    have c1 := cell_of_row w2 w.heap.size 1 _ _ _ hrow
    have c2 := cell_of_row w2 w.heap.size 2 _ _ _ hrow
    have c3 := cell_of_row w2 w.heap.size 3 _ _ _ hrow
    simp at c0 c1 c2 c3
    have M2 := hide hM2
    have B2 := hide hB2
    clear hb2 hM2 hB2 hrow HWY
    have co := (unhide M2).st.co a' (by omega)
    have cl := (unhide M2).st.cl
    obtain ⟨z, hz⟩ : ∃ z, p.owed.getD a' 0 = z := ⟨_, rfl⟩
    rw [hz] at co hle
    clear hz
    go_wp2_with fail
    go_quiet (fail)
    go_wp2_with fail
    go_ret2
    exact ⟨_, by first | rfl | simp, (unhide M2).below (below_drewN (Below.refl _ _) _), below_drewN (unhide B2) _⟩
  · have e3 : skipM ⟨73, (a' : Int), m, none8, (b' : Int)⟩ p = 0 := by
      unfold skipM
      dsimp only
      rw [if_neg (by decide), if_pos rfl, Int.toNat_natCast, Int.toNat_natCast, if_neg hle]
    rw [e3]
    have HM := hide h
    have HK := hide hk
    have hwy := fun w' => ways_any 73 (a' : Int) (b' : Int) m i w' (by omega) (by omega) (by omega) (by omega) (by omega)
    rw [show wayA 73 (a' : Int) i = i + 1 from by simp [wayA], show wayB 73 (a' : Int) (b' : Int) i = i + 1 + b' from by simp [wayB]] at hwy
    have HWY := hide hwy
    clear h hk hwy e1 e2 e3
    go_enter Try.func24, Try.ntmps24
    go_wp2_with fail
    refine (unhide HWY _).mono ?_
    rintro e w2 ⟨rfl, hb2⟩
    obtain ⟨hM2, hB2, hrow⟩ := box_ways (unhide HM) hb2
    rw [heap_alloc_new] at hrow
    have hl2 : w.heap.size < w2.heap.size := cell_lt hrow
    have c0 := cell_of_row w2 w.heap.size 0 _ _ _ hrow
    have c1 := cell_of_row w2 w.heap.size 1 _ _ _ hrow
    have c2 := cell_of_row w2 w.heap.size 2 _ _ _ hrow
    have c3 := cell_of_row w2 w.heap.size 3 _ _ _ hrow
    simp at c0 c1 c2 c3
    have M2 := hide hM2
    have B2 := hide hB2
    clear hb2 hM2 hB2 hrow HWY
    have co := (unhide M2).st.co a' (by omega)
    have cl := (unhide M2).st.cl
    obtain ⟨z, hz⟩ : ∃ z, p.owed.getD a' 0 = z := ⟨_, rfl⟩
    rw [hz] at co hle
    clear hz
    go_wp2_with fail
    go_quiet (fail)
    go_wp2_with fail
    go_ret2
    exact ⟨_, by first | rfl | simp, (unhide M2).below (below_drewN (Below.refl _ _) _), below_drewN (unhide B2) _⟩

set_option maxRecDepth 100000 in
set_option maxHeartbeats 4000000 in
theorem act_E (a b m : Int) (ha : 0 ≤ a) (ha8 : a ≤ 255) (hb0 : 0 ≤ b) (hb255 : b ≤ 255) : ActOk 69 a b m := by
  intro B T L Q sb i va vl vc p M o0 w hi h hk hl hne
  have hne := hne rfl
  have e1 : decS 69 a b m = ⟨69, 0, 0, none8, 0⟩ := rfl
  obtain ⟨l, x, hlx⟩ : ∃ l x, p.held = l ++ [x] := by
    have := List.dropLast_concat_getLast hne
    exact ⟨_, _, this.symm⟩
  have e2 : doM ⟨69, 0, 0, none8, 0⟩ p = ⟨p.hand + x, l, p.owed, p.paid⟩ := by simp [doM, backM, hlx]
  have e3 : skipM ⟨69, 0, 0, none8, 0⟩ p = 0 := by simp [skipM]
  unfold ActPost
  rw [e1, e2, e3]
  have hmem : x ∈ p.held := by rw [hlx]; simp
  have hx0 := hk.hh x hmem
  have b1 := hk.paid_le 0
  have b2 := hk.pa 0
  have b3 := hk.h0
  have hxs : x ≤ p.held.sum := Split.mem_le_sum _ hk.hh x hmem
  have hbd : p.hand + x ≤ 1000000000 := by omega
  have hlen : p.held.length = l.length + 1 := by rw [hlx]; simp
  have hmap : p.held.map (Value.int .i64) = l.map (Value.int .i64) ++ [.int .i64 x] := by rw [hlx]; simp
  obtain ⟨_, _, hve, hvc, hva⟩ := own_slice h.own
  simp only [Value.slice.injEq] at hve
  obtain ⟨rfl, rfl, rfl⟩ := hve
  obtain ⟨g, rfl⟩ := hva (by omega)
  rw [hlen] at hl hvc ⊢
  have HLEN := hide hlen
  have HMAP := hide hmap
  clear hmem b1 b2 hxs hlen hmap hva hne
  have HM := hide h
  have HK := hide hk
  have hwy := fun w' => ways_any 69 a b m i w' (by omega) (by omega) (by omega) (by omega) (by omega)
  rw [show wayA 69 a i = i + 1 from by simp [wayA], show wayB 69 a b i = i + 1 from by simp [wayB]] at hwy
  have HWY := hide hwy
  clear h hk hwy e1 e2 e3
  go_enter Try.func24, Try.ntmps24
  go_wp2_with fail
  refine (unhide HWY _).mono ?_
  rintro e w2 ⟨rfl, hb2⟩
  obtain ⟨hM2, hB2, hrow⟩ := box_ways (unhide HM) hb2
  rw [heap_alloc_new] at hrow
  have hl2 : w.heap.size < w2.heap.size := cell_lt hrow
  have c0 := cell_of_row w2 w.heap.size 0 _ _ _ hrow
  have c1 := cell_of_row w2 w.heap.size 1 _ _ _ hrow
  have c2 := cell_of_row w2 w.heap.size 2 _ _ _ hrow
  have c3 := cell_of_row w2 w.heap.size 3 _ _ _ hrow
  simp at c0 c1 c2 c3
  have M2 := hide hM2
  have B2 := hide hB2
  clear hb2 hM2 hB2 hrow HWY
  have how := (unhide M2).own
  rw [unhide HLEN, unhide HMAP] at how
  have hg2 : g < w2.heap.size := (how.lt g rfl).2
  have cx : w2.cell? ⟨g, l.length, none⟩ = some (.int .i64 x) := by
    rw [how.cellAt _ (by omega), List.getElem?_append_right (by simp)]
    simp
  have HPOP := hide (ownsRow_pop (by simp) how)
  have ct := (unhide M2).st.ch
  have ft := (unhide M2).st.f0 0
  have hT2 := (unhide M2).st.lt.1
  obtain ⟨hd, hhd⟩ : ∃ z, p.hand = z := ⟨_, rfl⟩
  rw [hhd] at ct b3 hbd
  have HHD := hide hhd
  have hwr : IntKind.i64.wrap (hd + x) = hd + x := wrap_big (by omega) (by omega)
  have hgT : g ≠ T := by have := (how.lt g rfl).1; have := (unhide M2).t; omega
  have hwi := wrapN l.length (by omega) ((l.length : Int) + 1 - 1) (by omega)
  have M3 : Hid (Mach (w2.setCell ⟨T, 0, none⟩ (.int .i64 (hd + x))) B T L Q sb (.slice (some ⟨g, 0, none⟩) l.length vc) ⟨hd + x, l, p.owed, p.paid⟩) := by
    have hst := ((unhide M2).st.hand (hd + x)).any ⟨hd + x, l, p.owed, p.paid⟩ rfl rfl rfl
    have hm := unhide M2
    refine ⟨hst, ?_, hm.t, hm.l, hm.q, hm.bt, hm.bl, hm.bq, by simpa [World.setCell] using hm.le⟩
    refine World.ownsRow.kept (unhide HPOP) (grown_set (grown_refl _ _) 0 _) (own_ne (unhide HPOP) hm.t)
  have B3 : Hid (Below B w (w2.setCell ⟨T, 0, none⟩ (.int .i64 (hd + x)))) := (unhide B2).setCell (p := ⟨T, 0, none⟩) (unhide M2).bt _
  clear hhd how
  go_wp2_with fail
  go_region
  all_goals
    go_wp2_with fail
    go_ret2
    rw [unhide HHD]
    exact ⟨_, by first | rfl | simp, (unhide M3).below (below_drewN (Below.refl _ _) 1), below_drewN (unhide B3) 1⟩

set_option maxRecDepth 100000 in
set_option maxHeartbeats 4000000 in
theorem act_H (a b m : Int) (ha : 1 ≤ a) (ha8 : a ≤ 99) (hb0 : 0 ≤ b) (hb255 : b ≤ 255) : ActOk 72 a b m := by
  intro B T L Q sb i va vl vc p M o0 w hi h hk hl _
  obtain ⟨i0, hi0, hz0, hz1, hz2⟩ := info_parts infoInt
  have e1 : decS 72 a b m = ⟨72, 0, a, none8, 0⟩ := rfl
  have e2 : doM ⟨72, 0, a, none8, 0⟩ p = ⟨p.hand * a / 100, p.held ++ [p.hand - p.hand * a / 100], p.owed, p.paid⟩ := by simp [doM, holdM]
  have e3 : skipM ⟨72, 0, a, none8, 0⟩ p = 0 := by simp [skipM]
  unfold ActPost
  rw [e1, e2, e3]
  have b1 := hk.paid_le 0
  have b2 := hk.pa 0
  have b3 := hk.h0
  have hd9 : p.hand ≤ 1000000000 := by omega
  have hpb := Split.part_bd p.hand a hk.h0 (by omega) (by omega)
  have hm1 : 0 ≤ p.hand * a := Int.mul_nonneg b3 (by omega)
  have hm2 : p.hand * a ≤ p.hand * 100 := Int.mul_le_mul_of_nonneg_left (by omega) b3
  obtain ⟨_, _, hve, hvc, _⟩ := own_slice h.own
  simp only [Value.slice.injEq] at hve
  obtain ⟨rfl, rfl, rfl⟩ := hve
  have HM := hide h
  have HK := hide hk
  have hwy := fun w' => ways_any 72 a b m i w' (by omega) (by omega) (by omega) (by omega) (by omega)
  rw [show wayA 72 a i = i + 1 from by simp [wayA], show wayB 72 a b i = i + 1 from by simp [wayB]] at hwy
  have HWY := hide hwy
  clear h hk hwy e1 e2 e3 b2
  go_enter Try.func24, Try.ntmps24
  go_wp2_with fail
  refine (unhide HWY _).mono ?_
  rintro e w2 ⟨rfl, hb2⟩
  obtain ⟨hM2, hB2, hrow⟩ := box_ways (unhide HM) hb2
  rw [heap_alloc_new] at hrow
  have hl2 : w.heap.size < w2.heap.size := cell_lt hrow
  have c0 := cell_of_row w2 w.heap.size 0 _ _ _ hrow
  have c1 := cell_of_row w2 w.heap.size 1 _ _ _ hrow
  have c2 := cell_of_row w2 w.heap.size 2 _ _ _ hrow
  have c3 := cell_of_row w2 w.heap.size 3 _ _ _ hrow
  simp at c0 c1 c2 c3
  have M2 := hide hM2
  have B2 := hide hB2
  clear hb2 hM2 hB2 hrow HWY
  have ct := (unhide M2).st.ch
  have ft := (unhide M2).st.f0 0
  have hT2 := (unhide M2).st.lt.1
  obtain ⟨hd, hhd⟩ : ∃ z, p.hand = z := ⟨_, rfl⟩
  rw [hhd] at ct b3 hpb hm1 hm2 b1 hd9
  have HHD := hide hhd
  obtain ⟨mu, hmu⟩ : ∃ z, hd * a = z := ⟨_, rfl⟩
  rw [hmu] at hm1 hm2 hpb
  have HMU := hide hmu
  have hw1 : IntKind.i64.wrap (hd * a) = mu := by rw [hmu]; exact wrap_big (by omega) (by omega)
  have hw1' : wrap64 (hd * a) = mu := by rw [hmu]; exact IntWalk.wrap64_in mu (by omega)
  have hdv : mu.tdiv 100 = mu / 100 := Int.tdiv_eq_ediv_of_nonneg hm1
  obtain ⟨pt, hpt⟩ : ∃ z, mu / 100 = z := ⟨_, rfl⟩
  rw [hpt] at hpb hdv
  have HPT := hide hpt
  have hw2 : IntKind.i64.wrap pt = pt := wrap_big (by omega) (by omega)
  have hw2' : wrap64 pt = pt := IntWalk.wrap64_in pt (by omega)
  have hw3 : IntKind.i64.wrap (hd - pt) = hd - pt := wrap_big (by omega) (by omega)
  clear hhd hmu hpt hm2 b1
  go_wp2_with fail
  go_quiet (fail)
  obtain ⟨V, hV⟩ : ∃ V, w2.drewN nq = V := ⟨_, rfl⟩
  have hbV : Below w2.heap.size w2 V := by rw [← hV]; exact below_drewN (Below.refl _ _) _
  have MV := hide ((unhide M2).below hbV)
  have BV := hide ((unhide B2).trans (hbV.mono (unhide M2).bb))
  rw [hV]
  clear hV hbV ct ft hT2 M2 B2
  have ct := (unhide MV).st.ch
  have ft := (unhide MV).st.f0 0
  have hT2 := (unhide MV).st.lt.1
  rw [unhide HHD] at ct
  go_wp2_with (at_builtin; refine wpList_append_own _ rfl (.tmp 67) (.tmp 74) 22 rfl sb 3 i0 (.int .i64 0) 1 8 Try.underlying22 hi0 hz0 hz1 hz2 rfl (by decide) _ p.held.length (p.held.map (Value.int .i64)) rfl (by exact World.ownsRow.alloc (unhide MV).own _) ⟨V.heap.size, 0, none⟩ 1 1 [.int .i64 (hd - pt)] rfl rfl (by intro j u hj; match j, hj with | 0, hj => simp at hj; subst hj; simp [Addr.add]) (by intro u hu; simp at hu; subst hu; rfl) (by unfold maxLen; omega) (by omega) (by have := (unhide MV).le; simp; omega) ?_; intro v' w3 hown hgrow _; obtain ⟨hR3, hM3, hB3⟩ := (unhide MV).app hown hgrow; have ct3 := hR3.ch; have ft3 := hR3.f0 0; have hT3 := hR3.lt.1; have HM3 := hide (hM3 pt); have HB3 := hide (hB3 (.int .i64 pt)); clear hM3 hB3 hR3; obtain ⟨a2, cap2, rfl, hle2, _⟩ := own_slice hown; clear hown hgrow)
  go_ret2
  rw [unhide HHD, unhide HMU, unhide HPT]
  exact ⟨_, by first | rfl | simp, unhide HM3, (unhide BV).trans (unhide HB3)⟩

end Go.Proofs.Ytbpolcnjojlkjab
