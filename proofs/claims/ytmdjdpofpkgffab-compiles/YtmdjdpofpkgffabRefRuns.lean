/- RefRuns: RefAct, RefActR, RefRun -/
import Derived.Test.YtmdjdpofpkgffabRefCodes
import Derived.Test.YtmdjdpofpkgffabRefShares
import Derived.Test.YtmdjdpofpkgffabPaysM
import Derived.Test.YtmdjdpofpkgffabCodes
import Derived.Test.YtmdjdpofpkgffabHeights

/- splitref's act. -/
namespace Go.Proofs.Ytmdjdpofpkgffab
open Go.ChangeShapes Go.WideShapes Go.ChangeAt Go.RowKit
open Split (St SOk Pu Keeps payM propM holdM backM doM skipM none8)
set_option linter.unusedVariables false
set_option linter.unusedSimpArgs false

/-- The document's machine: its state in blocks T, L, Q, its stack in a row of its own. -/
structure Mach (w : World) (B T L Q sb : Nat) (vs : Value) (p : Pu) : Prop where
  st : RSt w T L Q p
  own : w.ownsRow sb 3 1 vs p.held.length (p.held.map (Value.int .i64))
  t : T < sb
  l : L < sb
  q : Q < sb
  bt : B ≤ T
  bl : B ≤ L
  bq : B ≤ Q
  le : sb ≤ w.heap.size

section
variable {w w' : World} {B T L Q sb : Nat} {vs : Value} {p p' : Pu}
theorem Mach.on (h : Mach w B T L Q sb vs p) (ho : On T L Q w w') (hs : RSt w' T L Q p') (hh : p'.held = p.held) : Mach w' B T L Q sb vs p' := by
  refine ⟨hs, ?_, h.t, h.l, h.q, h.bt, h.bl, h.bq, Nat.le_trans h.le ho.size⟩
  rw [hh]
  refine ⟨h.own.1, ?_⟩
  rcases h.own.2 with ⟨q, q'⟩ | ⟨g', cap', cur, q, q1, q2, q3⟩
  · exact .inl ⟨q, q'⟩
  · have hg := h.t
    have hl := h.l
    have hq := h.q
    exact .inr ⟨g', cap', cur, q, q1, by rw [ho.block g' (cell_lt q2) (by omega) (by omega) (by omega)]; exact q2, q3⟩
theorem Mach.below (h : Mach w B T L Q sb vs p) (hb : Below w.heap.size w w') : Mach w' B T L Q sb vs p :=
  ⟨h.st.other (hb.block T h.st.lt.1) (hb.block L h.st.lt.2.1) (hb.block Q h.st.lt.2.2), own_step h.own hb, h.t, h.l, h.q, h.bt, h.bl, h.bq, Nat.le_trans h.le hb.size⟩
theorem Mach.bb (h : Mach w B T L Q sb vs p) : B ≤ w.heap.size := by
  have := h.bt; have := h.st.lt.1; omega
theorem Mach.app (h : Mach w B T L Q sb vs p) {x : Obj} {v' : Value} {z : Int} (hown : w'.ownsRow sb 3 1 v' (p.held.length + 1) (p.held.map (Value.int .i64) ++ [.int .i64 z])) (hgrow : (w.alloc x).grownBy w' vs.ownBlock) : RSt w' T L Q p ∧ (∀ pt : Int, Mach (w'.setCell ⟨T, 0, none⟩ (.int .i64 pt)) B T L Q sb v' ⟨pt, p.held ++ [z], p.owed, p.paid⟩) ∧ ∀ pt : Value, Below B w (w'.setCell ⟨T, 0, none⟩ pt) := by
  have hlt := h.st.lt
  have e1 : w'.heap[T]? = w.heap[T]? := (hgrow.block T (by simp; omega) (own_base h.own h.t)).trans (Go.heap_alloc_old _ _ hlt.1)
  have e2 : w'.heap[L]? = w.heap[L]? := (hgrow.block L (by simp; omega) (own_base h.own h.l)).trans (Go.heap_alloc_old _ _ hlt.2.1)
  have e3 : w'.heap[Q]? = w.heap[Q]? := (hgrow.block Q (by simp; omega) (own_base h.own h.q)).trans (Go.heap_alloc_old _ _ hlt.2.2)
  have hR := h.st.other e1 e2 e3
  have hsz : w.heap.size ≤ w'.heap.size := by have := hgrow.size; simp at this; omega
  have hb : Below B w w' := ((Below.refl B w).alloc (by have := h.bt; omega) x).trans (below_of_grown hgrow (by have := h.bt; simp; omega) (fun k hk => by have := (h.own.lt k hk).1; have := h.bt; have := h.t; omega))
  refine ⟨hR, fun pt => ⟨(hR.hand pt).any _ rfl rfl rfl, ?_, h.t, h.l, h.q, h.bt, h.bl, h.bq, by have := h.le; simp [World.setCell]; omega⟩, fun pt => hb.setCell (p := ⟨T, 0, none⟩) h.bt _⟩
  have := World.ownsRow.kept hown (grown_set (grown_refl _ _) 0 (.int .i64 pt)) (own_ne hown h.t)
  rw [List.length_append, List.map_append]
  exact this
theorem Mach.onB (h : Mach w B T L Q sb vs p) (ho : On T L Q w w') : Below B w w' := ho.below h.bb h.bt h.bl h.bq
end

def ActPost (B T L Q sb i : Nat) (s : St) (p : Pu) (w : World) (e : Ending) (w' : World) : Prop :=
  ∃ vs', e = .returned (.tuple #[.int .i64 ((i : Int) + 1 + (skipM s p : Nat)), vs']) ∧ Mach w' B T L Q sb vs' (doM s p) ∧ Below B w w'

def ActOk (k a b m : Int) : Prop :=
  ∀ (B T L Q sb i : Nat) (va : Option Addr) (vl vc : Nat) (p : Pu) (M : Int) (o0 : List Int) (w : World), i ≤ 200 → Mach w B T L Q sb (.slice va vl vc) p → Keeps M o0 p → p.held.length ≤ 10 → (k = 69 → p.held ≠ []) →
    Calls Try.prog 44 #[.pointer (some ⟨T, 0, none⟩), .agg #[.int .u8 k, .int .i64 a, .int .i64 b, .int .i64 m], .int .i64 i, .slice va vl vc] w (ActPost B T L Q sb i (decS k a b m) p w)

/-- The box of the instruction, and behind the ways. -/
theorem box_ways {w : World} {B T L Q sb : Nat} {vs : Value} {p : Pu} {x : Obj} {w2 : World} (h : Mach w B T L Q sb vs p) (hb : Below (w.alloc x).heap.size (w.alloc x) w2) : Mach w2 B T L Q sb vs p ∧ Below B w w2 ∧ w2.heap[w.heap.size]? = (w.alloc x).heap[w.heap.size]? := by
  have h1 : Below w.heap.size w (w.alloc x) := (Below.refl _ _).alloc (Nat.le_refl _) _
  refine ⟨(h.below h1).below hb, (below_step h1 hb).mono h.bb, hb.block _ (by simp)⟩

set_option maxRecDepth 100000 in
set_option maxHeartbeats 4000000 in
theorem act_P (a b m : Int) (ha : 0 ≤ a) (ha8 : a < 8) (hb0 : 0 ≤ b) (hb255 : b ≤ 255) : ActOk 80 a b m := by
  intro B T L Q sb i va vl vc p M o0 w hi h hk hl _
  have e1 : decS 80 a b m = ⟨80, a, 0, none8, 0⟩ := rfl
  obtain ⟨a', hae⟩ : ∃ n : Nat, a = n := ⟨a.toNat, by omega⟩
  subst hae
  have e2 : doM ⟨80, (a' : Int), 0, none8, 0⟩ p = payM p a' 1000000000 := by simp [doM]
  have e3 : skipM ⟨80, (a' : Int), 0, none8, 0⟩ p = 0 := by simp [skipM]
  unfold ActPost
  rw [e1, e2, e3]
  have HM := hide h
  have HK := hide hk
  have hwy := fun w' => ways_any 80 (a' : Int) b m i w' (by omega) ha (by omega) hb0 hb255
  rw [show wayA 80 (a' : Int) i = i + 1 from by simp [wayA], show wayB 80 (a' : Int) b i = i + 1 from by simp [wayB]] at hwy
  have HWY := hide hwy
  clear h hk hwy e1 e2 e3
  go_enter Try.func44, Try.ntmps44
  go_wp2_with fail
  refine (unhide HWY _).mono ?_
  rintro e w2 ⟨rfl, hb2⟩
  obtain ⟨hM2, hB2, hrow⟩ := box_ways (unhide HM) hb2
  rw [heap_alloc_new] at hrow
  have hl2 : w.heap.size < w2.heap.size := cell_lt hrow
  have c0 := cell_of_row w2 w.heap.size 0 _ _ _ hrow
  have c1 := cell_of_row w2 w.heap.size 1 _ _ _ hrow
  have c2 := cell_of_row w2 w.heap.size 2 _ _ _ hrow
  have c3 := cell_of_row w2 w.heap.size 3 _ _ _ hrow
  simp at c0 c1 c2 c3
  have M2 := hide hM2
  have B2 := hide hB2
  clear hb2 hM2 hB2 hrow HWY
  go_wp2_with fail
  refine (upto_any T L Q p M o0 a' 1000000000 _ (unhide M2).st (unhide HK) (by omega) (by omega)).mono ?_
  rintro e w3 ⟨rfl, h3, g3⟩
  have M3 : Hid (Mach w3 B T L Q sb (.slice va vl vc) (payM p a' 1000000000)) := (unhide M2).on g3 h3 rfl
  have B3 := hide ((unhide B2).trans ((unhide M2).onB g3))
  clear h3 g3
  go_wp2_with fail
  go_ret2
  exact ⟨_, by first | rfl | simp, unhide M3, unhide B3⟩
set_option maxRecDepth 100000 in
set_option maxHeartbeats 4000000 in
theorem act_C (a b m : Int) (ha : 0 ≤ a) (ha8 : a < 8) (hb0 : 0 ≤ b) (hb255 : b ≤ 255) (hm0 : 0 ≤ m) (hm9 : m ≤ 65535) : ActOk 67 a b m := by
  intro B T L Q sb i va vl vc p M o0 w hi h hk hl _
  have e1 : decS 67 a b m = ⟨67, a, m, none8, 0⟩ := rfl
  obtain ⟨a', hae⟩ : ∃ n : Nat, a = n := ⟨a.toNat, by omega⟩
  subst hae
  have e2 : doM ⟨67, (a' : Int), m, none8, 0⟩ p = payM p a' m := by simp [doM]
  have e3 : skipM ⟨67, (a' : Int), m, none8, 0⟩ p = 0 := by simp [skipM]
  unfold ActPost
  rw [e1, e2, e3]
  have HM := hide h
  have HK := hide hk
  have hwy := fun w' => ways_any 67 (a' : Int) b m i w' (by omega) (by omega) (by omega) (by omega) (by omega)
  rw [show wayA 67 (a' : Int) i = i + 1 from by simp [wayA], show wayB 67 (a' : Int) b i = i + 1 from by simp [wayB]] at hwy
  have HWY := hide hwy
  clear h hk hwy e1 e2 e3
  go_enter Try.func44, Try.ntmps44
  go_wp2_with fail
  refine (unhide HWY _).mono ?_
  rintro e w2 ⟨rfl, hb2⟩
  obtain ⟨hM2, hB2, hrow⟩ := box_ways (unhide HM) hb2
  rw [heap_alloc_new] at hrow
  have hl2 : w.heap.size < w2.heap.size := cell_lt hrow
  have c0 := cell_of_row w2 w.heap.size 0 _ _ _ hrow
  have c1 := cell_of_row w2 w.heap.size 1 _ _ _ hrow
  have c2 := cell_of_row w2 w.heap.size 2 _ _ _ hrow
  have c3 := cell_of_row w2 w.heap.size 3 _ _ _ hrow
  simp at c0 c1 c2 c3
  have M2 := hide hM2
  have B2 := hide hB2
  clear hb2 hM2 hB2 hrow HWY
  go_wp2_with fail
  refine (upto_any T L Q p M o0 a' m _ (unhide M2).st (unhide HK) (by omega) hm0).mono ?_
  rintro e w3 ⟨rfl, h3, g3⟩
  have M3 : Hid (Mach w3 B T L Q sb (.slice va vl vc) (payM p a' m)) := (unhide M2).on g3 h3 rfl
  have B3 := hide ((unhide B2).trans ((unhide M2).onB g3))
  clear h3 g3
  go_wp2_with fail
  go_ret2
  exact ⟨_, by first | rfl | simp, unhide M3, unhide B3⟩

set_option maxRecDepth 100000 in
set_option maxHeartbeats 4000000 in
theorem act_J (a b m : Int) (ha : 0 ≤ a) (ha8 : a ≤ 255) (hb0 : 0 ≤ b) (hb255 : b ≤ 255) : ActOk 74 a b m := by
  intro B T L Q sb i va vl vc p M o0 w hi h hk hl _
  have e1 : decS 74 a b m = ⟨74, 0, 0, none8, a⟩ := rfl
  obtain ⟨a', hae⟩ : ∃ n : Nat, a = n := ⟨a.toNat, by omega⟩
  subst hae
  have e2 : doM ⟨74, 0, 0, none8, (a' : Int)⟩ p = p := by simp [doM]
  have e3 : skipM ⟨74, 0, 0, none8, (a' : Int)⟩ p = a' := by simp [skipM]
  unfold ActPost
  rw [e1, e2, e3]
  have HM := hide h
  have HK := hide hk
  have hwy := fun w' => ways_any 74 (a' : Int) b m i w' (by omega) (by omega) (by omega) (by omega) (by omega)
  rw [show wayA 74 (a' : Int) i = i + 1 + a' from by simp [wayA], show wayB 74 (a' : Int) b i = i + 1 + a' from by simp [wayB]] at hwy
  have HWY := hide hwy
  clear h hk hwy e1 e2 e3
  go_enter Try.func44, Try.ntmps44
  go_wp2_with fail
  refine (unhide HWY _).mono ?_
  rintro e w2 ⟨rfl, hb2⟩
  obtain ⟨hM2, hB2, hrow⟩ := box_ways (unhide HM) hb2
  rw [heap_alloc_new] at hrow
  have hl2 : w.heap.size < w2.heap.size := cell_lt hrow
  have c0 := cell_of_row w2 w.heap.size 0 _ _ _ hrow
  have c1 := cell_of_row w2 w.heap.size 1 _ _ _ hrow
  have c2 := cell_of_row w2 w.heap.size 2 _ _ _ hrow
  have c3 := cell_of_row w2 w.heap.size 3 _ _ _ hrow
  simp at c0 c1 c2 c3
  have M2 := hide hM2
  have B2 := hide hB2
  clear hb2 hM2 hB2 hrow HWY
  go_wp2_with fail
  go_ret2
  exact ⟨_, by first | rfl | simp, unhide M2, unhide B2⟩

set_option maxRecDepth 100000 in
set_option maxHeartbeats 4000000 in
theorem act_I (a b m : Int) (ha : 0 ≤ a) (ha8 : a < 8) (hb0 : 0 ≤ b) (hb255 : b ≤ 255) (hm0 : 0 ≤ m) (hm9 : m ≤ 65535) : ActOk 73 a b m := by
  intro B T L Q sb i va vl vc p M o0 w hi h hk hl _
  have e1 : decS 73 a b m = ⟨73, a, m, none8, b⟩ := rfl
  obtain ⟨a', hae⟩ : ∃ n : Nat, a = n := ⟨a.toNat, by omega⟩
  subst hae
  obtain ⟨b', hbe⟩ : ∃ n : Nat, b = n := ⟨b.toNat, by omega⟩
  subst hbe
  have e2 : doM ⟨73, (a' : Int), m, none8, (b' : Int)⟩ p = p := by simp [doM]
  have ha8' : (a' : Int) < 8 := ha8
  unfold ActPost
  rw [e1, e2]
  by_cases hle : p.owed.getD a' 0 ≤ m
  · have e3 : skipM ⟨73, (a' : Int), m, none8, (b' : Int)⟩ p = b' := by
      unfold skipM
      dsimp only
      rw [if_neg (by decide), if_pos rfl, Int.toNat_natCast, Int.toNat_natCast, if_pos hle]
    rw [e3]
    have HM := hide h
    have HK := hide hk
    have hwy := fun w' => ways_any 73 (a' : Int) (b' : Int) m i w' (by omega) (by omega) (by omega) (by omega) (by omega)
    rw [show wayA 73 (a' : Int) i = i + 1 from by simp [wayA], show wayB 73 (a' : Int) (b' : Int) i = i + 1 + b' from by simp [wayB]] at hwy
    have HWY := hide hwy
    clear h hk hwy e1 e2 e3
    go_enter Try.func44, Try.ntmps44
    go_wp2_with fail
    refine (unhide HWY _).mono ?_
    rintro e w2 ⟨rfl, hb2⟩
    obtain ⟨hM2, hB2, hrow⟩ := box_ways (unhide HM) hb2
    rw [heap_alloc_new] at hrow
    have hl2 : w.heap.size < w2.heap.size := cell_lt hrow
    have c0 := cell_of_row w2 w.heap.size 0 _ _ _ hrow
    have c1 := cell_of_row w2 w.heap.size 1 _ _ _ hrow
    have c2 := cell_of_row w2 w.heap.size 2 _ _ _ hrow
    have c3 := cell_of_row w2 w.heap.size 3 _ _ _ hrow
    simp at c0 c1 c2 c3
    have M2 := hide hM2
    have B2 := hide hB2
    clear hb2 hM2 hB2 hrow HWY
    have co := (unhide M2).st.co a' (by omega)
    have cl := (unhide M2).st.cl
    obtain ⟨z, hz⟩ : ∃ z, p.owed.getD a' 0 = z := ⟨_, rfl⟩
    rw [hz] at co hle
    clear hz
    go_wp2_with fail
    go_quiet (fail)
    go_wp2_with fail
    go_ret2
    exact ⟨_, by first | rfl | simp, (unhide M2).below (below_drewN (Below.refl _ _) _), below_drewN (unhide B2) _⟩
  · have e3 : skipM ⟨73, (a' : Int), m, none8, (b' : Int)⟩ p = 0 := by
      unfold skipM
      dsimp only
      rw [if_neg (by decide), if_pos rfl, Int.toNat_natCast, Int.toNat_natCast, if_neg hle]
    rw [e3]
    have HM := hide h
    have HK := hide hk
    have hwy := fun w' => ways_any 73 (a' : Int) (b' : Int) m i w' (by omega) (by omega) (by omega) (by omega) (by omega)
    rw [show wayA 73 (a' : Int) i = i + 1 from by simp [wayA], show wayB 73 (a' : Int) (b' : Int) i = i + 1 + b' from by simp [wayB]] at hwy
    have HWY := hide hwy
    clear h hk hwy e1 e2 e3
    go_enter Try.func44, Try.ntmps44
    go_wp2_with fail
    refine (unhide HWY _).mono ?_
    rintro e w2 ⟨rfl, hb2⟩
    obtain ⟨hM2, hB2, hrow⟩ := box_ways (unhide HM) hb2
    rw [heap_alloc_new] at hrow
    have hl2 : w.heap.size < w2.heap.size := cell_lt hrow
    have c0 := cell_of_row w2 w.heap.size 0 _ _ _ hrow
    have c1 := cell_of_row w2 w.heap.size 1 _ _ _ hrow
    have c2 := cell_of_row w2 w.heap.size 2 _ _ _ hrow
    have c3 := cell_of_row w2 w.heap.size 3 _ _ _ hrow
    simp at c0 c1 c2 c3
    have M2 := hide hM2
    have B2 := hide hB2
    clear hb2 hM2 hB2 hrow HWY
    have co := (unhide M2).st.co a' (by omega)
    have cl := (unhide M2).st.cl
    obtain ⟨z, hz⟩ : ∃ z, p.owed.getD a' 0 = z := ⟨_, rfl⟩
    rw [hz] at co hle
    clear hz
    go_wp2_with fail
    go_quiet (fail)
    go_wp2_with fail
    go_ret2
    exact ⟨_, by first | rfl | simp, (unhide M2).below (below_drewN (Below.refl _ _) _), below_drewN (unhide B2) _⟩

set_option maxRecDepth 100000 in
set_option maxHeartbeats 4000000 in
theorem act_E (a b m : Int) (ha : 0 ≤ a) (ha8 : a ≤ 255) (hb0 : 0 ≤ b) (hb255 : b ≤ 255) : ActOk 69 a b m := by
  intro B T L Q sb i va vl vc p M o0 w hi h hk hl hne
  have hne := hne rfl
  have e1 : decS 69 a b m = ⟨69, 0, 0, none8, 0⟩ := rfl
  obtain ⟨l, x, hlx⟩ : ∃ l x, p.held = l ++ [x] := by
    have := List.dropLast_concat_getLast hne
    exact ⟨_, _, this.symm⟩
  have e2 : doM ⟨69, 0, 0, none8, 0⟩ p = ⟨p.hand + x, l, p.owed, p.paid⟩ := by simp [doM, backM, hlx]
  have e3 : skipM ⟨69, 0, 0, none8, 0⟩ p = 0 := by simp [skipM]
  unfold ActPost
  rw [e1, e2, e3]
  have hmem : x ∈ p.held := by rw [hlx]; simp
  have hx0 := hk.hh x hmem
  have b1 := hk.paid_le 0
  have b2 := hk.pa 0
  have b3 := hk.h0
  have hxs : x ≤ p.held.sum := Split.mem_le_sum _ hk.hh x hmem
  have hbd : p.hand + x ≤ 1000000000 := by omega
  have hlen : p.held.length = l.length + 1 := by rw [hlx]; simp
  have hmap : p.held.map (Value.int .i64) = l.map (Value.int .i64) ++ [.int .i64 x] := by rw [hlx]; simp
  obtain ⟨_, _, hve, hvc, hva⟩ := own_slice h.own
  simp only [Value.slice.injEq] at hve
  obtain ⟨rfl, rfl, rfl⟩ := hve
  obtain ⟨g, rfl⟩ := hva (by omega)
  rw [hlen] at hl hvc ⊢
  have HLEN := hide hlen
  have HMAP := hide hmap
  clear hmem b1 b2 hxs hlen hmap hva hne
  have HM := hide h
  have HK := hide hk
  have hwy := fun w' => ways_any 69 a b m i w' (by omega) (by omega) (by omega) (by omega) (by omega)
  rw [show wayA 69 a i = i + 1 from by simp [wayA], show wayB 69 a b i = i + 1 from by simp [wayB]] at hwy
  have HWY := hide hwy
  clear h hk hwy e1 e2 e3
  go_enter Try.func44, Try.ntmps44
  go_wp2_with fail
  refine (unhide HWY _).mono ?_
  rintro e w2 ⟨rfl, hb2⟩
  obtain ⟨hM2, hB2, hrow⟩ := box_ways (unhide HM) hb2
  rw [heap_alloc_new] at hrow
  have hl2 : w.heap.size < w2.heap.size := cell_lt hrow
  have c0 := cell_of_row w2 w.heap.size 0 _ _ _ hrow
  have c1 := cell_of_row w2 w.heap.size 1 _ _ _ hrow
  have c2 := cell_of_row w2 w.heap.size 2 _ _ _ hrow
  have c3 := cell_of_row w2 w.heap.size 3 _ _ _ hrow
  simp at c0 c1 c2 c3
  have M2 := hide hM2
  have B2 := hide hB2
  clear hb2 hM2 hB2 hrow HWY
  have how := (unhide M2).own
  rw [unhide HLEN, unhide HMAP] at how
  have hg2 : g < w2.heap.size := (how.lt g rfl).2
  have cx : w2.cell? ⟨g, l.length, none⟩ = some (.int .i64 x) := by
    rw [how.cellAt _ (by omega), List.getElem?_append_right (by simp)]
    simp
  have HPOP := hide (ownsRow_pop (by simp) how)
  have ct := (unhide M2).st.ch
  have ft := (unhide M2).st.f0 0
  have hT2 := (unhide M2).st.lt.1
  obtain ⟨hd, hhd⟩ : ∃ z, p.hand = z := ⟨_, rfl⟩
  rw [hhd] at ct b3 hbd
  have HHD := hide hhd
  have hwr : IntKind.i64.wrap (hd + x) = hd + x := wrap_big (by omega) (by omega)
  have hgT : g ≠ T := by have := (how.lt g rfl).1; have := (unhide M2).t; omega
  have hwi := wrapN l.length (by omega) ((l.length : Int) + 1 - 1) (by omega)
  have M3 : Hid (Mach (w2.setCell ⟨T, 0, none⟩ (.int .i64 (hd + x))) B T L Q sb (.slice (some ⟨g, 0, none⟩) l.length vc) ⟨hd + x, l, p.owed, p.paid⟩) := by
    have hst := ((unhide M2).st.hand (hd + x)).any ⟨hd + x, l, p.owed, p.paid⟩ rfl rfl rfl
    have hm := unhide M2
    refine ⟨hst, ?_, hm.t, hm.l, hm.q, hm.bt, hm.bl, hm.bq, by simpa [World.setCell] using hm.le⟩
    refine World.ownsRow.kept (unhide HPOP) (grown_set (grown_refl _ _) 0 _) (own_ne (unhide HPOP) hm.t)
  have B3 : Hid (Below B w (w2.setCell ⟨T, 0, none⟩ (.int .i64 (hd + x)))) := (unhide B2).setCell (p := ⟨T, 0, none⟩) (unhide M2).bt _
  clear hhd how
  go_wp2_with fail
  go_region
  all_goals
    go_wp2_with fail
    go_ret2
    rw [unhide HHD]
    exact ⟨_, by first | rfl | simp, (unhide M3).below (below_drewN (Below.refl _ _) 1), below_drewN (unhide B3) 1⟩

set_option maxRecDepth 100000 in
set_option maxHeartbeats 4000000 in
theorem act_H (a b m : Int) (ha : 1 ≤ a) (ha8 : a ≤ 99) (hb0 : 0 ≤ b) (hb255 : b ≤ 255) : ActOk 72 a b m := by
  intro B T L Q sb i va vl vc p M o0 w hi h hk hl _
  obtain ⟨i0, hi0, hz0, hz1, hz2⟩ := info_parts infoInt
  have e1 : decS 72 a b m = ⟨72, 0, a, none8, 0⟩ := rfl
  have e2 : doM ⟨72, 0, a, none8, 0⟩ p = ⟨p.hand * a / 100, p.held ++ [p.hand - p.hand * a / 100], p.owed, p.paid⟩ := by simp [doM, holdM]
  have e3 : skipM ⟨72, 0, a, none8, 0⟩ p = 0 := by simp [skipM]
  unfold ActPost
  rw [e1, e2, e3]
  have b1 := hk.paid_le 0
  have b2 := hk.pa 0
  have b3 := hk.h0
  have hd9 : p.hand ≤ 1000000000 := by omega
  have hpb := Split.part_bd p.hand a hk.h0 (by omega) (by omega)
  have hm1 : 0 ≤ p.hand * a := Int.mul_nonneg b3 (by omega)
  have hm2 : p.hand * a ≤ p.hand * 100 := Int.mul_le_mul_of_nonneg_left (by omega) b3
  obtain ⟨_, _, hve, hvc, _⟩ := own_slice h.own
  simp only [Value.slice.injEq] at hve
  obtain ⟨rfl, rfl, rfl⟩ := hve
  have HM := hide h
  have HK := hide hk
  have hwy := fun w' => ways_any 72 a b m i w' (by omega) (by omega) (by omega) (by omega) (by omega)
  rw [show wayA 72 a i = i + 1 from by simp [wayA], show wayB 72 a b i = i + 1 from by simp [wayB]] at hwy
  have HWY := hide hwy
  clear h hk hwy e1 e2 e3 b2
  go_enter Try.func44, Try.ntmps44
  go_wp2_with fail
  refine (unhide HWY _).mono ?_
  rintro e w2 ⟨rfl, hb2⟩
  obtain ⟨hM2, hB2, hrow⟩ := box_ways (unhide HM) hb2
  rw [heap_alloc_new] at hrow
  have hl2 : w.heap.size < w2.heap.size := cell_lt hrow
  have c0 := cell_of_row w2 w.heap.size 0 _ _ _ hrow
  have c1 := cell_of_row w2 w.heap.size 1 _ _ _ hrow
  have c2 := cell_of_row w2 w.heap.size 2 _ _ _ hrow
  have c3 := cell_of_row w2 w.heap.size 3 _ _ _ hrow
  simp at c0 c1 c2 c3
  have M2 := hide hM2
  have B2 := hide hB2
  clear hb2 hM2 hB2 hrow HWY
  have ct := (unhide M2).st.ch
  have ft := (unhide M2).st.f0 0
  have hT2 := (unhide M2).st.lt.1
  obtain ⟨hd, hhd⟩ : ∃ z, p.hand = z := ⟨_, rfl⟩
  rw [hhd] at ct b3 hpb hm1 hm2 b1 hd9
  have HHD := hide hhd
  obtain ⟨mu, hmu⟩ : ∃ z, hd * a = z := ⟨_, rfl⟩
  rw [hmu] at hm1 hm2 hpb
  have HMU := hide hmu
  have hw1 : IntKind.i64.wrap (hd * a) = mu := by rw [hmu]; exact wrap_big (by omega) (by omega)
  have hw1' : wrap64 (hd * a) = mu := by rw [hmu]; exact IntWalk.wrap64_in mu (by omega)
  have hdv : mu.tdiv 100 = mu / 100 := Int.tdiv_eq_ediv_of_nonneg hm1
  obtain ⟨pt, hpt⟩ : ∃ z, mu / 100 = z := ⟨_, rfl⟩
  rw [hpt] at hpb hdv
  have HPT := hide hpt
  have hw2 : IntKind.i64.wrap pt = pt := wrap_big (by omega) (by omega)
  have hw2' : wrap64 pt = pt := IntWalk.wrap64_in pt (by omega)
  have hw3 : IntKind.i64.wrap (hd - pt) = hd - pt := wrap_big (by omega) (by omega)
  clear hhd hmu hpt hm2 b1
  go_wp2_with fail
  go_quiet (fail)
  obtain ⟨V, hV⟩ : ∃ V, w2.drewN nq = V := ⟨_, rfl⟩
  have hbV : Below w2.heap.size w2 V := by rw [← hV]; exact below_drewN (Below.refl _ _) _
  have MV := hide ((unhide M2).below hbV)
  have BV := hide ((unhide B2).trans (hbV.mono (unhide M2).bb))
  rw [hV]
  clear hV hbV ct ft hT2 M2 B2
  have ct := (unhide MV).st.ch
  have ft := (unhide MV).st.f0 0
  have hT2 := (unhide MV).st.lt.1
  rw [unhide HHD] at ct
  go_wp2_with (at_builtin; refine wpList_append_own _ rfl (.tmp 67) (.tmp 74) 22 rfl sb 3 i0 (.int .i64 0) 1 8 Try.underlying22 hi0 hz0 hz1 hz2 rfl (by decide) _ p.held.length (p.held.map (Value.int .i64)) rfl (by exact World.ownsRow.alloc (unhide MV).own _) ⟨V.heap.size, 0, none⟩ 1 1 [.int .i64 (hd - pt)] rfl rfl (by intro j u hj; match j, hj with | 0, hj => simp at hj; subst hj; simp [Addr.add]) (by intro u hu; simp at hu; subst hu; rfl) (by unfold maxLen; omega) (by omega) (by have := (unhide MV).le; simp; omega) ?_; intro v' w3 hown hgrow _; obtain ⟨hR3, hM3, hB3⟩ := (unhide MV).app hown hgrow; have ct3 := hR3.ch; have ft3 := hR3.f0 0; have hT3 := hR3.lt.1; have HM3 := hide (hM3 pt); have HB3 := hide (hB3 (.int .i64 pt)); clear hM3 hB3 hR3; obtain ⟨a2, cap2, rfl, hle2, _⟩ := own_slice hown; clear hown hgrow)
  go_ret2
  rw [unhide HHD, unhide HMU, unhide HPT]
  exact ⟨_, by first | rfl | simp, unhide HM3, (unhide BV).trans (unhide HB3)⟩

end Go.Proofs.Ytmdjdpofpkgffab

/- splitref's act: the instruction R, and all of them. -/
namespace Go.Proofs.Ytmdjdpofpkgffab
open Go.ChangeShapes Go.WideShapes Go.ChangeAt Go.RowKit
open Split (St SOk Pu Keeps payM propM holdM backM doM skipM none8)
set_option linter.unusedVariables false
set_option linter.unusedSimpArgs false

set_option maxRecDepth 100000 in
set_option maxHeartbeats 4000000 in
theorem act_R (a b m : Int) (ha : 0 ≤ a) (ha8 : a ≤ 255) (hb0 : 0 ≤ b) (hb255 : b ≤ 255) : ActOk 82 a b m := by
  intro B T L Q sb i va vl vc p M o0 w hi h hk hl _
  have e1 : decS 82 a b m = ⟨82, 0, 0, bitsM a, 0⟩ := rfl
  have e2 : doM ⟨82, 0, 0, bitsM a, 0⟩ p = propM p (bitsM a) := by simp [doM]
  have e3 : skipM ⟨82, 0, 0, bitsM a, 0⟩ p = 0 := by simp [skipM]
  unfold ActPost
  rw [e1, e2, e3]
  have HM := hide h
  have HK := hide hk
  have hwy := fun w' => ways_any 82 a b m i w' (by omega) (by omega) (by omega) (by omega) (by omega)
  rw [show wayA 82 a i = i + 1 from by simp [wayA], show wayB 82 a b i = i + 1 from by simp [wayB]] at hwy
  have HWY := hide hwy
  clear h hk hwy e1 e2 e3
  go_enter Try.func44, Try.ntmps44
  go_wp2_with fail
  refine (unhide HWY _).mono ?_
  rintro e w2 ⟨rfl, hb2⟩
  obtain ⟨hM2, hB2, hrow⟩ := box_ways (unhide HM) hb2
  rw [heap_alloc_new] at hrow
  have hl2 : w.heap.size < w2.heap.size := cell_lt hrow
  have c0 := cell_of_row w2 w.heap.size 0 _ _ _ hrow
  have c1 := cell_of_row w2 w.heap.size 1 _ _ _ hrow
  have c2 := cell_of_row w2 w.heap.size 2 _ _ _ hrow
  have c3 := cell_of_row w2 w.heap.size 3 _ _ _ hrow
  simp at c0 c1 c2 c3
  have M2 := hide hM2
  have B2 := hide hB2
  have HROW := hide hrow
  clear hb2 hM2 hB2 hrow HWY c2 c3
  have hmk := mkB
  go_wp2_with fail
  clear hmk c0 c1
  have hB0 : Hid (Bs (w2.alloc (.cells madeB 4)) w2.heap.size (bfill a 0)) := by
    show Bs _ _ _
    rw [bfill_zero]
    exact ⟨by simp [none8], by rw [← madeB_eq]; exact heap_alloc_new _ _⟩
  have hbl0 : Hid (Below w2.heap.size w2 (w2.alloc (.cells madeB 4))) := (Below.refl _ _).alloc (Nat.le_refl _) _
  have hTw := (unhide M2).st.lt
  go_loopw [13] (fun kk wr => ∃ k : Nat, k ≤ 8 ∧ kk = .int .i64 k ∧ Hid (Bs wr w2.heap.size (bfill a k)) ∧ Hid (Below w2.heap.size w2 wr)) (fun kk _ => 8 - (intOf kk).toNat)
  case atStart => exact ⟨0, by omega, rfl, hB0, hbl0⟩
  case round =>
    obtain ⟨k, hk8, rfl, hb, hg⟩ := hrel
    clear hB0 hbl0
    have hSw : w2.heap.size < wr.heap.size := cell_lt (unhide hb).2
    have hrow := ((unhide hg).block w.heap.size hl2).trans (unhide HROW)
    have c1 := cell_of_row wr w.heap.size 1 _ _ _ hrow
    have hlr : w.heap.size < wr.heap.size := cell_lt hrow
    simp at c1
    clear hrow
    by_cases hlt : k < 8
    · have cz := (unhide hb).cell k hlt
      have fz := (unhide hb).fr k
      have hbit := and_bit a k hlt
      obtain ⟨v, hv⟩ : ∃ v, bits BinOp.and IntKind.i64 a (wrap64 (2 ^ k)) = v := ⟨_, rfl⟩
      rw [hv] at hbit
      have hst : Hid (Bs (wr.setCell ⟨w2.heap.size, k, none⟩ (.bool (bitM a k))) w2.heap.size (bfill a (k + 1))) := by
        show Bs _ _ _
        rw [← bfill_set a k hlt]
        exact (unhide hb).set k _
      have hgt : Hid (Below w2.heap.size w2 (wr.setCell ⟨w2.heap.size, k, none⟩ (.bool (bitM a k)))) := (unhide hg).setCell (p := ⟨w2.heap.size, k, none⟩) (Nat.le_refl _) _
      obtain ⟨bb, hbb⟩ : ∃ bb, (bfill a k).getD k false = bb := ⟨_, rfl⟩
      rw [hbb] at cz
      obtain ⟨bm, hbm⟩ : ∃ bm, bitM a k = bm := ⟨_, rfl⟩
      rw [hbm] at hbit hst hgt
      clear hbb hbm
      go_wp2_with fail
      go_region
      go_wp2_with fail
      go_roundw
      case rel => exact ⟨k + 1, by omega, by go_num, (unhide hst).other rfl, Below.drew (unhide hgt)⟩
      case measure => simp [intOf]; omega
    · have hk8' : k = 8 := by omega
      subst hk8'
      rw [bfill_all] at hb
      go_wp2_with fail
      refine (rate_any T L Q w2.heap.size p (bitsM a) M o0 _ ((unhide M2).below (unhide hg)).st (unhide HK) (unhide hb) (by omega) (by omega) (by omega)).mono ?_
      rintro e w3 ⟨rfl, h3, g3⟩
      have M3 : Hid (Mach w3 B T L Q sb (.slice va vl vc) (propM p (bitsM a))) := ((unhide M2).below (unhide hg)).on g3 h3 (Split.propM_held _ _)
      have B3 := hide (((unhide B2).trans ((unhide hg).mono (unhide M2).bb)).trans (((unhide M2).below (unhide hg)).onB g3))
      clear h3 g3
      go_wp2_with fail
      go_ret2
      exact ⟨_, by first | rfl | simp, unhide M3, unhide B3⟩

/-- Every instruction that holds. -/
theorem act_all {k a b m left : Int} (h : decB k a b left = true) (ha : 0 ≤ a) (ha' : a ≤ 255) (hb : 0 ≤ b) (hb' : b ≤ 255) (hm : 0 ≤ m) (hm' : m ≤ 65535) : ActOk k a b m := by
  unfold decB at h
  by_cases h80 : k = 80
  · subst h80
    simp at h
    exact act_P a b m ha h hb hb'
  rw [if_neg h80] at h
  by_cases h67 : k = 67
  · subst h67
    simp at h
    exact act_C a b m ha h hb hb' hm hm'
  rw [if_neg h67] at h
  by_cases h82 : k = 82
  · subst h82
    exact act_R a b m ha ha' hb hb'
  rw [if_neg h82] at h
  by_cases h72 : k = 72
  · subst h72
    simp at h
    exact act_H a b m h.1 h.2 hb hb'
  rw [if_neg h72] at h
  by_cases h69 : k = 69
  · subst h69
    exact act_E a b m ha ha' hb hb'
  rw [if_neg h69] at h
  by_cases h74 : k = 74
  · subst h74
    exact act_J a b m ha ha' hb hb'
  rw [if_neg h74] at h
  by_cases h73 : k = 73
  · subst h73
    simp at h
    exact act_I a b m ha h.1 hb hb' hm hm'
  · rw [if_neg h73] at h
    simp at h
end Go.Proofs.Ytmdjdpofpkgffab

/- splitref's Run, of code that is admitted. -/
namespace Go.Proofs.Ytmdjdpofpkgffab
open Go.ChangeShapes Go.WideShapes Go.ChangeAt Go.RowKit
open Split (St SOk Pu Keeps execM doM skipM heldM InCode Well byt_bd byt_255)
set_option linter.unusedVariables false
set_option linter.unusedSimpArgs false

set_option maxRecDepth 100000 in
set_option maxHeartbeats 8000000 in
theorem rrun_adm (c : ByteArray) (n : Nat) (hA : Adm c n) (zs : List Int) (m : Int) (a : Option Addr) (len cap : Nat) (w : World) (h : Ints w a len zs) (hr : len * 8 ≤ 140737488351232) :
    Calls Try.prog 15 #[.string c, .slice a len cap, .int .i64 m] w fun e w' => ∃ (a' : Option Addr) (l c' : Nat), e = .returned (.tuple #[.slice a' l c', .int .i64 (stR (codeM c n) zs m), .int .i64 (givenE zs m), .int .i64 (stP zs m)]) ∧ Ints w' a' l (stL (codeM c n) zs m) ∧ Below w.heap.size w w' := by
  have HV := hide (fun w' => rverify_adm c n w' hA)
  have hn := hA.n120
  have hs := hA.size
  have hsok := hA.sok
  have hheld := hA.held
  have hcl : (codeM c n).length = n := codeM_len c n
  have hdiv : (c.size : Int).tdiv 5 = n := by
    rw [Int.tdiv_eq_ediv_of_nonneg (by omega)]
    omega
  have hc600 : c.size ≤ 600 := by omega
  have hget : ∀ i, i < n → (codeM c n)[i]? = some (decM c i) := fun i hi => by
    rw [List.getElem?_eq_getElem (by rw [hcl]; exact hi), codeM_get]
  have HA := hide hA
  have HS := hide hs
  have HI := hide h
  by_cases hg : givenE zs m = 0
  · have e2 : stP zs m = 0 := by simp [stP, hg]
    have e3 : stL (codeM c n) zs m = (execM (codeM c n) (codeM c n).length 0 (pu0 zs m)).paid := by simp [stL, hg]
    have e4 : stR (codeM c n) zs m = (execM (codeM c n) (codeM c n).length 0 (pu0 zs m)).hand := by simp [stR, hg]
    rw [e2, e3, e4, hg]
    obtain ⟨hz8, _, _, _⟩ := given_ok hg
    have h8 : len = 8 := by rw [← h.1, hz8]
    subst h8
    have hkp := keeps0 hg
    have hwell : Well (codeM c n) 0 (pu0 zs m) := Split.well_start hheld rfl
    obtain ⟨ss, hss⟩ : ∃ ss, codeM c n = ss := ⟨_, rfl⟩
    rw [hss] at hsok hheld hcl hget hwell ⊢
    rw [hcl]
    have HSOK := hide hsok
    have HGET := hide hget
    have HKP := hide hkp
    have HWELL := hide hwell
    have HG := hide hg
    have HCL := hide hcl
    clear hsok hheld hget hkp hwell hg hz8 h hA hs e2 e3 e4 hss hcl
    obtain ⟨q, hq⟩ : ∃ q, execM ss n 0 (pu0 zs m) = q := ⟨_, rfl⟩
    rw [hq]
    have HQ := hide hq
    clear hq
    go_enter Try.func15, Try.ntmps15
    go_wp2_with fail
    refine (unhide HV _).mono ?_
    rintro e w1 ⟨rfl, hb1⟩
    have B1 := hide hb1
    have I1 := hide ((unhide HI).below hb1)
    clear hb1 HV
    go_wp2_with fail
    refine (given_any _ _ _ zs m _ (unhide I1) hr).mono ?_
    rintro e w2 ⟨rfl, hw2⟩
    have hw2 := hw2.symm
    subst hw2
    rw [unhide HG]
    generalize givenP zs m = gp
    go_wp2_with fail
    refine (begin_any _ _ zs m _ (unhide I1)).mono ?_
    rintro e w3 ⟨T, L, Q, rfl, hT, hL, hQ, hp, hb3⟩
    have hlt := hp.lt
    have M3 : Hid (Mach w3 w.heap.size T L Q w3.heap.size (.slice none 0 0) (pu0 zs m)) :=
      ⟨hp, World.ownsRow_nil _ _ _ _, hlt.1, hlt.2.1, hlt.2.2, Nat.le_trans (unhide B1).size hT, Nat.le_trans (unhide B1).size hL, Nat.le_trans (unhide B1).size hQ, Nat.le_refl _⟩
    have B3 := hide (below_step (unhide B1) hb3)
    clear hp hb3 hlt hT hL hQ I1 B1
    generalize w3.heap.size = sb at M3
    go_wp2_with fail
    go_loopg [15, 16, 17] n (fun f vv ii _ wr => ∃ (pc : Nat) (p : Pu), pc ≤ n ∧ n - pc ≤ f ∧ ii = .int .i64 pc ∧ Hid (Mach wr w.heap.size T L Q sb vv p) ∧ Hid (Keeps m zs p) ∧ Hid (Well ss pc p) ∧ Hid (q = execM ss f pc p) ∧ Hid (Below w.heap.size w wr))
    case atStart => exact ⟨0, pu0 zs m, by omega, by omega, rfl, M3, HKP, HWELL, (unhide HQ).symm, B3⟩
    case round =>
      obtain ⟨pc, p, hpc, hf, rfl, hM, hk, hw, hex, hb⟩ := hrel
      obtain ⟨va, vc, rfl, _, _⟩ := own_slice (unhide hM).own
      clear M3 B3
      by_cases hlt : pc < n
      · have hsl : pc < ss.length := by rw [unhide HCL]; exact hlt
        obtain ⟨f', hf'⟩ : ∃ f', gk = f' + 1 := ⟨gk - 1, by omega⟩
        have hse : ss[pc] = decM c pc := by
          have := unhide HGET pc hlt
          rw [List.getElem?_eq_getElem hsl] at this
          simpa using this
        obtain ⟨wl1, wl2, wl3⟩ := Split.well_step (unhide HSOK).2 (unhide hw) hsl
        have hkd := Split.do_keeps (unhide hk) ((unhide HSOK).1 _ (List.getElem_mem hsl))
        have hex' : q = execM ss f' (pc + 1 + skipM (ss[pc]) p) (doM (ss[pc]) p) := by
          have := unhide hex
          rw [hf', exec_next ss f' pc p hsl] at this
          exact this
        rw [hse] at wl2 wl3 hkd hex'
        have hm : Hid (f' < gk ∧ n - (pc + 1) ≤ f') := ⟨by omega, by omega⟩
        have hsz : pc * 5 + 5 ≤ c.size := by have := unhide HS; omega
        have hat := fun w' => at_any c pc w' hc600 hsz
        have hok := (unhide HA).ok pc hlt
        unfold decOk at hok
        rw [decide_eq_true hsz, Bool.true_and] at hok
        have a1 := byt_bd c (pc * 5 + 1)
        have a2 := byt_255 (t := c) (i := pc * 5 + 1) (by omega)
        have b1 := byt_bd c (pc * 5 + 2)
        have b2 := byt_255 (t := c) (i := pc * 5 + 2) (by omega)
        have c1 := byt_bd c (pc * 5 + 3)
        have c2 := byt_255 (t := c) (i := pc * 5 + 3) (by omega)
        have d1 := byt_bd c (pc * 5 + 4)
        have d2 := byt_255 (t := c) (i := pc * 5 + 4) (by omega)
        have hact := act_all (m := nOf c pc) hok a1.1 a2 b1.1 b2 (by unfold nOf; omega) (by unfold nOf; omega)
        have hk69 : kOf c pc = 69 → p.held ≠ [] := fun h69 => wl2 (by
          show (decS (kOf c pc) _ _ _).kind = 69
          rw [h69]; rfl)
        have hpn : pc + 1 + skipM (decM c pc) p ≤ n := by
          have := wl3.1
          rw [unhide HCL] at this
          exact this
        have HAT := hide hat
        have HACT := hide (hact w.heap.size T L Q sb pc va p.held.length vc p m zs)
        have HK69 := hide hk69
        have HW3 := hide wl3
        have HKD := hide hkd
        have HEX := hide hex'
        have hwl1 : p.held.length ≤ 10 := by omega
        have hdec : decM c pc = decS (kOf c pc) (aOf c pc) (bOf c pc) (nOf c pc) := rfl
        rw [hdec] at HW3 HKD HEX hpn
        clear hat hact hok a1 a2 b1 b2 c1 c2 d1 d2 hk69 wl1 wl2 wl3 hkd hex' hex hf' hse hdec
        generalize kOf c pc = kk at *
        generalize aOf c pc = aa at *
        generalize bOf c pc = bb at *
        generalize nOf c pc = mm at *
        generalize decS kk aa bb mm = s at *
        go_wp2_with fail
        refine (unhide HAT _).mono ?_
        rintro e w4 ⟨rfl, hb4⟩
        have hb5 := below_step hb4 ((Below.refl _ _).alloc (Nat.le_refl _) (.cells #[.int .u8 kk, .int .i64 aa, .int .i64 bb, .int .i64 mm] 70))
        have M5 := hide ((unhide hM).below hb5)
        have B5 := hide ((unhide hb).trans (hb5.mono (unhide hM).bb))
        clear hb4 hb5
        go_wp2_with fail
        refine (unhide HACT _ (by omega) (unhide M5) (unhide hk) hwl1 (unhide HK69)).mono ?_
        rintro e w6 ⟨vs', rfl, hM6, hb6⟩
        have M6 := hide hM6
        have B6 := hide ((unhide B5).trans hb6)
        clear hM6 hb6
        obtain ⟨sk, hsk⟩ : ∃ x, skipM s p = x := ⟨_, rfl⟩
        rw [hsk] at HW3 HEX hpn ⊢
        clear hsk
        obtain ⟨va2, vc2, hve, _, _⟩ := own_slice (unhide M6).own
        subst hve
        go_wp2_with fail
        go_roundg f'
        case measure => exact (unhide hm).1
        case rel => exact ⟨pc + 1 + sk, doM s p, by omega, by have := (unhide hm).2; omega, by go_num, M6, HKD, HW3, HEX, B6⟩
      · have hpe : pc = n := by omega
        subst hpe
        have hqe : q = p := by
          have := unhide hex
          rw [exec_stop ss gk pc p (by rw [unhide HCL]; omega)] at this
          exact this
        subst hqe
        have c1 := (unhide hM).st.ch
        have c2 := (unhide hM).st.cq
        have HI4 := hide (unhide hM).st.paid_ints
        go_wp2_with fail
        go_quiet (fail)
        go_wp2_with fail
        refine bodyPost_ret (v := .tuple #[.slice (some ⟨Q, 0, none⟩) 8 8, .int .i64 q.hand, .int .i64 0, .int .i64 0]) (by simp [results, Try.results15, go_sem]) rfl ?_
        exact ⟨_, _, _, rfl, (unhide HI4).below (below_drewN (Below.refl _ _) _), below_drewN (unhide hb) _⟩
  · have e2 : stP zs m = givenP zs m := by simp [stP, hg]
    have e3 : stL (codeM c n) zs m = [] := by simp [stL, hg]
    have e4 : stR (codeM c n) zs m = 0 := by simp [stR, hg]
    rw [e2, e3, e4]
    have hgb : (givenE zs m != 0) = true := by simpa using hg
    clear hsok hheld hget hg h hA hs e2 e3 e4 hcl
    go_enter Try.func15, Try.ntmps15
    go_wp2_with fail
    refine (unhide HV _).mono ?_
    rintro e w1 ⟨rfl, hb1⟩
    have B1 := hide hb1
    have I1 := hide ((unhide HI).below hb1)
    clear hb1 HV
    go_wp2_with fail
    refine (given_any _ _ _ zs m _ (unhide I1) hr).mono ?_
    rintro e w2 ⟨rfl, hw2⟩
    have hw2 := hw2.symm
    subst hw2
    generalize hge : givenE zs m = ge at *
    generalize hgp : givenP zs m = gp at *
    have HG := hide (And.intro hge hgp)
    clear hge hgp
    go_wp2_with fail
    refine bodyPost_ret (v := .tuple #[.slice none 0 0, .int .i64 0, .int .i64 ge, .int .i64 gp]) (by simp [results, Try.results15, go_sem]) rfl ?_
    first
      | exact ⟨none, 0, 0, by rw [(unhide HG).1, (unhide HG).2], ⟨rfl, fun h => by omega⟩, unhide B1⟩
      | exact ⟨none, 0, 0, rfl, ⟨rfl, fun h => by omega⟩, unhide B1⟩
end Go.Proofs.Ytmdjdpofpkgffab
