/- UpTo: a script in memory, and the walk through it. -/
import Derived.Test.YtmdjdpofpkgffabBookAny
import Derived.Deep.RegionHeld3
import Derived.Deep.Cut
namespace Go.Proofs.Ytmdjdpofpkgffab
open Go.ChangeShapes Go.WideShapes Go.ChangeAt Go.RowKit
open Split
set_option linter.unusedVariables false
set_option linter.unusedSimpArgs false

theorem Two.put {m m' : Nat} {w0 w : World} {X Y B : Nat} {P D : Nat → Nat} {S : Nat → Nat → Prop} {b : Nat → Bk} (h : Two m w0 X Y B P D S b) (hb : Below w0.heap.size w0 w) {p d : Nat} {s : Nat → Prop} (hp : Pair w p d s bk0) (hq : ∀ q, Foot p s q → w0.heap.size ≤ q) (hB : B ≤ w0.heap.size) {k : Nat} (hk : k < 2) (hm : ∀ i, i < m' → i < m ∨ i = k) :
    Two m' ((w.setCell ⟨X, k, none⟩ (.pointer (some ⟨p, 0, none⟩))).setCell ⟨Y, k, none⟩ (.pointer (some ⟨d, 0, none⟩))) X Y B (upd P k p) (upd D k d) (upd S k s) (upd b k bk0) := by
  have h' := h.below hb
  have hne := h'.xy_ne
  obtain ⟨c1, h1, h1s, h1'⟩ := h'.xr
  obtain ⟨c2, h2, h2s, h2'⟩ := h'.yr
  have hxl := h.xlt
  have hyl := h.ylt
  have hf : Fr (fun q => q = X ∨ q = Y) w ((w.setCell ⟨X, k, none⟩ (.pointer (some ⟨p, 0, none⟩))).setCell ⟨Y, k, none⟩ (.pointer (some ⟨d, 0, none⟩))) :=
    ((Fr.refl _ w).set (p := ⟨X, k, none⟩) (.inl (.inl rfl)) _).set (p := ⟨Y, k, none⟩) (.inl (.inr rfl)) _
  have hfoot : ∀ i, i < m' → ∀ q, Foot (upd P k p i) (upd S k s i) q → (i = k ∧ w0.heap.size ≤ q) ∨ (i ≠ k ∧ i < m ∧ Foot (P i) (S i) q) := by
    intro i hi q hq'
    by_cases e : i = k
    · subst e
      rw [upd_same, upd_same] at hq'
      exact .inl ⟨rfl, hq q hq'⟩
    · rw [upd_other _ _ _ e, upd_other _ _ _ e] at hq'
      rcases hm i hi with h3 | h3
      · exact .inr ⟨e, h3, hq'⟩
      · exact absurd h3 e
  refine ⟨⟨c1.setIfInBounds k (.pointer (some ⟨p, 0, none⟩)), ?_, by simpa using h1s, fun i hi => ?_⟩, ⟨c2.setIfInBounds k (.pointer (some ⟨d, 0, none⟩)), ?_, by simpa using h2s, fun i hi => ?_⟩, fun i hi => ?_, fun i j hi hj hij q hq1 hq2 => ?_, fun i hi q hq1 => ?_, h.xy⟩
  · rw [Below.heap_setCell _ _ _ _ hne]
    exact heap_setCell_same w X k _ _ _ h1
  · rw [Array.getElem?_setIfInBounds]
    by_cases e : k = i
    · subst e
      rw [if_pos rfl, if_pos (by omega), upd_same]
    · rw [if_neg e, upd_other _ _ _ (fun h => e h.symm)]
      rcases hm i hi with h3 | h3
      · exact h1' i h3
      · exact absurd h3.symm e
  · refine heap_setCell_same _ Y k _ _ _ ?_
    rw [Below.heap_setCell _ _ _ _ hne.symm]
    exact h2
  · rw [Array.getElem?_setIfInBounds]
    by_cases e : k = i
    · subst e
      rw [if_pos rfl, if_pos (by omega), upd_same]
    · rw [if_neg e, upd_other _ _ _ (fun h => e h.symm)]
      rcases hm i hi with h3 | h3
      · exact h2' i h3
      · exact absurd h3.symm e
  · by_cases e : i = k
    · subst e
      rw [upd_same, upd_same, upd_same, upd_same]
      have hx : ∀ q, Foot p s q → ¬ (q = X ∨ q = Y) := fun q hq' => by have := hq q hq'; omega
      exact hp.keep hf (hx p (.inl rfl)) (fun q hs => hx q (.inr hs))
    · rw [upd_other _ _ _ e, upd_other _ _ _ e, upd_other _ _ _ e, upd_other _ _ _ e]
      rcases hm i hi with h3 | h3
      · have hx : ∀ q, Foot (P i) (S i) q → ¬ (q = X ∨ q = Y) := fun q hq' => by have := h.off i h3 q hq'; omega
        exact (h'.pair i h3).keep hf (hx _ (.inl rfl)) (fun q hs => hx q (.inr hs))
      · exact absurd h3 e
  · rcases hfoot i hi q hq1 with h3 | h3 <;> rcases hfoot j hj q hq2 with h4 | h4
    · omega
    · have := h.foot_lt h4.2.1 h4.2.2; omega
    · have := h.foot_lt h3.2.1 h3.2.2; omega
    · exact h.sep i j h3.2.1 h4.2.1 hij q h3.2.2 h4.2.2
  · rcases hfoot i hi q hq1 with h3 | h3
    · omega
    · exact h.off i h3.2.1 q h3.2.2

/-- A new book and its twin. -/
theorem pair_new {w w1 w2 : World} {D : Nat} (s1 : SBk w1 w.heap.size bk0) (b1 : Below w.heap.size w w1) (r2 : RBk w2 D (fun k => w1.heap.size ≤ k ∧ k < w2.heap.size) bk0) (b2 : Below w1.heap.size w1 w2) :
    Pair w2 w.heap.size D (fun k => w1.heap.size ≤ k ∧ k < w2.heap.size) bk0 ∧ Below w.heap.size w w2 ∧ ∀ q, Foot w.heap.size (fun k => w1.heap.size ≤ k ∧ k < w2.heap.size) q → w.heap.size ≤ q := by
  have hlt := SRow.lt s1
  refine ⟨⟨SRow.below s1 b2 hlt, r2, fun h => by omega, bk0_ok⟩, below_step b1 b2, ?_⟩
  rintro q (rfl | h)
  · exact Nat.le_refl _
  · have := b1.size
    omega

structure OpM where
  kind : Int
  a : Int
  b : Int
  s : ByteArray
  t : ByteArray
  va : Option Addr
  vn : Nat
  vc : Nat

structure OpAt (w : World) (g o : Nat) (x : OpM) : Prop where
  c0 : w.cell? ⟨g, o, none⟩ = some (.int .i64 x.kind)
  c1 : w.cell? ⟨g, o + 1, none⟩ = some (.int .i64 x.a)
  c2 : w.cell? ⟨g, o + 2, none⟩ = some (.int .i64 x.b)
  c3 : w.cell? ⟨g, o + 3, none⟩ = some (.string x.s)
  c4 : w.cell? ⟨g, o + 4, none⟩ = some (.string x.t)
  c5 : w.cell? ⟨g, o + 5, none⟩ = some (.slice x.va x.vn x.vc)

/-- The steps of a script, as they lie in memory. -/
structure Ops (w : World) (a : Option Addr) (len : Nat) (os : List OpM) : Prop where
  cnt : os.length = len
  txt : ∀ o ∈ os, o.s.size ≤ 1000000000000000
  mem : 0 < len → ∃ g off, a = some ⟨g, off, none⟩ ∧ ∀ i o, os[i]? = some o → OpAt w g (off + i * 6) o

theorem OpAt.lt {w : World} {g o : Nat} {x : OpM} (h : OpAt w g o x) : g < w.heap.size := by
  have := h.c0
  by_cases hx : g < w.heap.size
  · exact hx
  · simp [World.cell?, hx] at this
theorem OpAt.below {w w' : World} {g o B : Nat} {x : OpM} (h : OpAt w g o x) (hb : Below B w w') (hg : g < B) : OpAt w' g o x := by
  have hc : ∀ j, w'.cell? ⟨g, j, none⟩ = w.cell? ⟨g, j, none⟩ := fun j => hb.cell (p := ⟨g, j, none⟩) hg
  exact ⟨(hc _).trans h.c0, (hc _).trans h.c1, (hc _).trans h.c2, (hc _).trans h.c3, (hc _).trans h.c4, (hc _).trans h.c5⟩
theorem Ops.below {w w' : World} {a : Option Addr} {len : Nat} {os : List OpM} (h : Ops w a len os) (hb : Below w.heap.size w w') : Ops w' a len os := by
  refine ⟨h.cnt, h.txt, fun hp => ?_⟩
  obtain ⟨g, off, e, hc⟩ := h.mem hp
  exact ⟨g, off, e, fun i o ho => (hc i o ho).below hb (hc i o ho).lt⟩

theorem Two.xhas {m : Nat} {w : World} {X Y B : Nat} {P D : Nat → Nat} {S : Nat → Nat → Prop} {b : Nat → Bk} (h : Two m w X Y B P D S b) (k : Nat) (hk : k < 2) : (∃ u, w.cell? ⟨X, k, none⟩ = some u) ∧ w.frozen? ⟨X, k, none⟩ = false := by
  obtain ⟨c1, h1, h1s, _⟩ := h.xr
  refine ⟨?_, frozen_of_row w X k _ _ h1⟩
  rw [cell_of_row w X k _ _ _ h1]
  exact ⟨_, Array.getElem?_eq_getElem (by omega)⟩
theorem Two.yhas {m : Nat} {w : World} {X Y B : Nat} {P D : Nat → Nat} {S : Nat → Nat → Prop} {b : Nat → Bk} (h : Two m w X Y B P D S b) (k : Nat) (hk : k < 2) : (∃ u, w.cell? ⟨Y, k, none⟩ = some u) ∧ w.frozen? ⟨Y, k, none⟩ = false := by
  obtain ⟨c1, h1, h1s, _⟩ := h.yr
  refine ⟨?_, frozen_of_row w Y k _ _ h1⟩
  rw [cell_of_row w Y k _ _ _ h1]
  exact ⟨_, Array.getElem?_eq_getElem (by omega)⟩
theorem own_row {w : World} {base g n cap : Nat} {e : TypeId} {xs : List Value} (h : w.ownsRow base e 1 (.slice (some ⟨g, 0, none⟩) n cap) n xs) : ∃ cur, w.heap[g]? = some (.cells cur e (0, 0)) ∧ cur.size = cap := by
  rcases h.2 with ⟨h', _⟩ | ⟨g', cap', cur, h', _, hg, _, _, hs, _⟩
  · simp at h'
  · simp only [Value.slice.injEq, Option.some.injEq, Addr.mk.injEq, and_true, true_and] at h'
    obtain ⟨rfl, rfl⟩ := h'
    exact ⟨cur, hg, by omega⟩
theorem two_zero {w w1 w2 : World} {xs ys : List Value} (hx : w1.ownsRow w.heap.size 43 1 (.slice (some ⟨w.heap.size, 0, none⟩) 2 2) 2 xs) (hg1 : w.grownBy w1 none) (hy : w2.ownsRow w.heap.size 56 1 (.slice (some ⟨w1.heap.size, 0, none⟩) 2 2) 2 ys) (hg2 : w1.grownBy w2 none) :
    Two 0 w2 w.heap.size w1.heap.size w.heap.size (fun _ => 0) (fun _ => 0) (fun _ _ => False) (fun _ => bk0) ∧ Below w.heap.size w w2 ∧ w.heap.size < w2.heap.size := by
  obtain ⟨c1, h1, s1⟩ := own_row hx
  obtain ⟨c2, h2, s2⟩ := own_row hy
  have hl := cell_lt h1
  refine ⟨⟨⟨c1, (hg2.block _ hl (by simp)).trans h1, s1, fun i hi => by omega⟩, ⟨c2, h2, s2, fun i hi => by omega⟩, fun i hi => by omega, fun i j hi => by omega, fun i hi => by omega, ⟨Nat.le_refl _, hg1.size⟩⟩, ?_, Nat.lt_of_lt_of_le hl hg2.size⟩
  exact ((Below.refl w.heap.size w).grown hg1 (Nat.le_refl _) (by simp)).grown hg2 hg1.size (by simp)

theorem infoPB : (Try.prog.info? 43).map (fun i => (i.zero, i.size, i.bytes)) = some (some (.pointer none), 1, 8) := by kernel_rfl
theorem infoPD : (Try.prog.info? 56).map (fun i => (i.zero, i.size, i.bytes)) = some (some (.pointer none), 1, 8) := by kernel_rfl

theorem and1 (z : Int) : bits .and .i64 z 1 = z % 2 := by
  have e : ∀ x : Nat, x &&& 1 = x % 2 := fun x => Nat.and_two_pow_sub_one_eq_mod x 1
  have h1 : (BitVec.ofInt 64 z).toNat = (z % 18446744073709551616).toNat := by rw [BitVec.toNat_ofInt]; rfl
  show IntKind.i64.wrap ((BitVec.ofInt 64 z &&& BitVec.ofInt 64 1).toNat : Int) = _
  rw [BitVec.toNat_and, show (BitVec.ofInt 64 1).toNat = 1 from rfl, e, h1, IntKind.wrap_i64]
  omega

set_option maxHeartbeats 1000000 in
theorem free_low (kind a bb : Int) (s t : ByteArray) (v : Value) (w : World) (hk : kind ≤ 0) :
    Calls Try.prog 48 #[.agg #[.int .i64 kind, .int .i64 a, .int .i64 bb, .string s, .string t, v]] w fun e w' => e = .returned (.bool true) ∧ Below w.heap.size w w' := by
  have k7 : (kind == 7) = false := by simp; omega
  have k8 : (kind == 8) = false := by simp; omega
  have k9 : (kind == 9) = false := by simp; omega
  have k10 : (kind == 10) = false := by simp; omega
  have k11 : (kind == 11) = false := by simp; omega
  have HB : Hid (Below w.heap.size w (w.alloc (.cells #[.int .i64 kind, .int .i64 a, .int .i64 bb, .string s, .string t, v] 46))) := (Below.refl _ _).alloc (Nat.le_refl _) _
  go_enter Try.func48, Try.ntmps48
  go_wp2
  go_ret
  exact ⟨rfl, unhide HB⟩

theorem kept8 {S : Nat → Prop} {w3 w4 : World} {X Y O k : Nat} {v0 v1 u0 u1 u2 u3 u4 u5 : Value} (hF : ¬ S X ∧ ¬ S Y ∧ ¬ S O ∧ X < w3.heap.size ∧ Y < w3.heap.size ∧ O < w3.heap.size) (hf : Fr S w3.drew w4)
    (h0 : w3.cell? ⟨X, k, none⟩ = some v0) (h1 : w3.cell? ⟨Y, k, none⟩ = some v1) (o0 : w3.cell? ⟨O, 0, none⟩ = some u0) (o1 : w3.cell? ⟨O, 1, none⟩ = some u1) (o2 : w3.cell? ⟨O, 2, none⟩ = some u2) (o3 : w3.cell? ⟨O, 3, none⟩ = some u3) (o4 : w3.cell? ⟨O, 4, none⟩ = some u4) (o5 : w3.cell? ⟨O, 5, none⟩ = some u5) :
    w4.cell? ⟨X, k, none⟩ = some v0 ∧ w4.cell? ⟨Y, k, none⟩ = some v1 ∧ w4.cell? ⟨O, 0, none⟩ = some u0 ∧ w4.cell? ⟨O, 1, none⟩ = some u1 ∧ w4.cell? ⟨O, 2, none⟩ = some u2 ∧ w4.cell? ⟨O, 3, none⟩ = some u3 ∧ w4.cell? ⟨O, 4, none⟩ = some u4 ∧ w4.cell? ⟨O, 5, none⟩ = some u5 := by
  obtain ⟨a1, a2, a3, a4, a5, a6⟩ := hF
  have hc : ∀ (b j : Nat), b < w3.heap.size → ¬ S b → w4.cell? ⟨b, j, none⟩ = w3.cell? ⟨b, j, none⟩ := fun b j hb hs => World.cell?_of_block (w := w3) (a := ⟨b, j, none⟩) (hf.block b hb hs)
  exact ⟨(hc _ _ a4 a1).trans h0, (hc _ _ a5 a2).trans h1, (hc _ _ a6 a3).trans o0, (hc _ _ a6 a3).trans o1, (hc _ _ a6 a3).trans o2, (hc _ _ a6 a3).trans o3, (hc _ _ a6 a3).trans o4, (hc _ _ a6 a3).trans o5⟩

set_option maxRecDepth 100000 in
set_option maxHeartbeats 4000000 in
theorem upTo_any (a : Option Addr) (len cap : Nat) (os : List OpM) (lo hi : Int) (w : World) (h : Ops w a len os) (hlen : len ≤ 1000000000000000) (hlo : 2 ≤ lo) (hhi : hi ≤ 6) :
    Calls Try.prog 24 #[.slice a len cap, .int .i64 lo, .int .i64 hi] w fun e w' => e = .returned (.int .i64 (-1)) ∧ Below w.heap.size w w' := by
  obtain ⟨i0, xi, xz0, xz1, xz2⟩ := info_parts infoPB
  obtain ⟨j0, yi, yz0, yz1, yz2⟩ := info_parts infoPD
  have HO := hide h
  clear h
  go_enter Try.func24, Try.ntmps24
  go_wp2_with (at_make; first
    | (refine wpList_make_full _ rfl _ _ 82 rfl w.heap.size 43 i0 (.pointer none) 1 Try.underlying82 xi xz0 xz1 .i64 .i64 _ _ 2 rfl rfl rfl rfl (by rw [xz2]; omega) (by unfold maxLen; omega) (Nat.le_refl _) ?_; intro w1 xown xgrow)
    | (refine wpList_make_full _ rfl _ _ 83 rfl w.heap.size 56 j0 (.pointer none) 1 Try.underlying83 yi yz0 yz1 .i64 .i64 _ _ 2 rfl rfl rfl rfl (by rw [yz2]; omega) (by unfold maxLen; omega) (by exact xgrow.size) ?_; intro w2 yown ygrow))
  obtain ⟨t0, b0, z0⟩ := two_zero xown xgrow yown ygrow
  have T0 := hide t0
  have B0 := hide b0
  have hXY : w.heap.size ≠ w1.heap.size := t0.xy_ne
  obtain ⟨Y, hY⟩ : ∃ Y, w1.heap.size = Y := ⟨_, rfl⟩
  rw [hY] at T0 hXY ⊢
  clear t0 b0 xown xgrow yown ygrow xi xz0 xz1 xz2 yi yz0 yz1 yz2 hY
  go_loopw [9] (fun i wr => ∃ (k : Nat) (P D : Nat → Nat) (S : Nat → Nat → Prop) (b : Nat → Bk), k ≤ 2 ∧ i = .int .i64 k ∧ Hid (Two k wr w.heap.size Y w.heap.size P D S b) ∧ Hid (Below w.heap.size w wr)) (fun i _ => 2 - (intOf i).toNat)
  case atStart => exact ⟨0, _, _, _, _, by omega, rfl, T0, B0⟩
  case round =>
    obtain ⟨k, P, D, S, b, hk2, rfl, hT, hB⟩ := hrel
    clear T0 B0
    by_cases hlt : k < 2
    · go_wp2_with fail
      refine (snew_any _).mono ?_
      rintro e w3 ⟨rfl, s3, b3⟩
      have S3 := hide s3
      have B3 := hide b3
      clear s3 b3
      go_wp2_with fail
      refine (rnew_any _).mono ?_
      rintro e w4 ⟨D4, rfl, _, r4, b4⟩
      obtain ⟨p4, bb4, q4⟩ := pair_new (unhide S3) (unhide B3) r4 b4
      have T4 := (unhide hT).below bb4
      obtain ⟨⟨ux, hux⟩, fx⟩ := T4.xhas k hlt
      obtain ⟨⟨uy, huy⟩, fy⟩ := T4.yhas k hlt
      have HT := hide ((unhide hT).put bb4 p4 q4 (unhide hB).size hlt (m' := k + 1) (fun i hi => by omega))
      have BB4 := hide (below_step (unhide hB) bb4)
      have HY := hide (unhide hT).xy
      clear S3 B3 r4 b4 p4 bb4 q4 T4
      go_wp2
      go_roundw
      case rel =>
        refine ⟨k + 1, _, _, _, _, by omega, by go_num, HT, ?_⟩
        exact ((unhide BB4).setCell (p := ⟨w.heap.size, k, none⟩) (Nat.le_refl _) _).setCell (p := ⟨Y, k, none⟩) (unhide HY).2 _
      case measure => simp [intOf]; omega
    · have hk' : k = 2 := by omega
      have hkI : ((k : Nat) : Int) = 2 := by omega
      rw [hkI]
      have hT2 : Hid (Two 2 wr w.heap.size Y w.heap.size P D S b) := by rw [← hk']; exact hT
      have hO := unhide HO
      clear hlt hk2 z0 hkI hT hk' k
      go_wp2_with fail
      go_loopw [12] (fun i wr => ∃ (q : Nat) (P D : Nat → Nat) (S : Nat → Nat → Prop) (b : Nat → Bk), q ≤ len ∧ i = .int .i64 q ∧ Hid (Two 2 wr w.heap.size Y w.heap.size P D S b) ∧ Hid (Below w.heap.size w wr)) (fun i _ => len - (intOf i).toNat)
      case atStart => exact ⟨0, _, _, _, _, by omega, rfl, hT2, hB⟩
      case round =>
        clear hT2 hB P D S b
        obtain ⟨q, P, D, S, b, hql, rfl, hT, hB⟩ := hrel
        by_cases hlt : q < len
        · obtain ⟨o, ho⟩ : ∃ o, os[q]? = some o := ⟨_, List.getElem?_eq_getElem (by rw [hO.cnt]; exact hlt)⟩
          have hot : o.s.size ≤ 1000000000000000 := hO.txt o (List.mem_of_getElem? ho)
          obtain ⟨g, off, rfl, hmem⟩ := hO.mem (by omega)
          have hat := hmem q o ho
          have hgl : g < w.heap.size := hat.lt
          obtain ⟨c0, c1, c2, c3, c4, c5⟩ := hat.below (unhide hB) hgl
          obtain ⟨kind, oa, ob, os', ot, va, vn, vc⟩ := o
          simp only at c0 c1 c2 c3 c4 c5 hot
          clear hO hmem hat ho
          obtain ⟨k, hk2, hkb⟩ : ∃ k : Nat, k < 2 ∧ bits .and .i64 ob 1 = (k : Int) := ⟨(ob % 2).toNat, by omega, by rw [and1]; omega⟩
          have hq60 : (q : Int) < 1152921504606846976 := by omega
          have hql' : (q : Int) < (len : Int) := by omega
          obtain ⟨w3, hw3⟩ : ∃ w3, wr.alloc (.cells #[.int .i64 kind, .int .i64 oa, .int .i64 ob, .string os', .string ot, .slice va vn vc] 46) = w3 := ⟨_, rfl⟩
          have hb3 : Below wr.heap.size wr w3 := by rw [← hw3]; exact (Below.refl _ _).alloc (Nat.le_refl _) _
          have T3 := hide ((unhide hT).below hb3)
          have B3 := hide (below_step (unhide hB) hb3)
          have HW3 := hide hw3
          have HB3 := hide hb3
          clear hw3 hb3
          by_cases k1 : kind = 1
          · subst k1
            go_wp2_with fail
            rw [unhide HW3]
            refine (snew_any _).mono ?_
            rintro e w4 ⟨rfl, s4, b4⟩
            have S4 := hide s4
            have B4 := hide b4
            clear s4 b4
            go_wp2_with fail
            refine (rnew_any _).mono ?_
            rintro e w5 ⟨D5, rfl, _, r5, b5⟩
            obtain ⟨p5, bb5, q5⟩ := pair_new (unhide S4) (unhide B4) r5 b5
            have T5 := (unhide T3).below bb5
            obtain ⟨⟨ux, hux⟩, fx⟩ := T5.xhas k hk2
            obtain ⟨⟨uy, huy⟩, fy⟩ := T5.yhas k hk2
            have HT := hide ((unhide T3).put bb5 p5 q5 (unhide B3).size hk2 (m' := 2) (fun i hi => by omega))
            have BB5 := hide (below_step (unhide B3) bb5)
            have HY := hide (unhide hT).xy
            clear S4 B4 r5 b5 p5 bb5 q5 T5 c0 c1 c2 c3 c4 c5
            go_wp2
            go_roundw
            case rel =>
              refine ⟨q + 1, _, _, _, _, by omega, by go_num, HT, ?_⟩
              exact ((unhide BB5).setCell (p := ⟨w.heap.size, k, none⟩) (Nat.le_refl _) _).setCell (p := ⟨Y, k, none⟩) (unhide HY).2 _
            case measure => simp [intOf]; omega
          · have k1' : (kind == 1) = false := by simpa using k1
            by_cases k26 : 2 ≤ kind ∧ kind ≤ 6
            · obtain ⟨k26a, k26b⟩ := k26
              have xc := (unhide hT).xcell k hk2
              have yc := (unhide hT).ycell k hk2
              have BK := hide (fun w => book_any (P k) (D k) (S k) (b k) kind oa ob os' ot (.slice va vn vc) w)
              obtain ⟨pk, hpk⟩ : ∃ pk, P k = pk := ⟨_, rfl⟩
              obtain ⟨dk, hdk⟩ : ∃ dk, D k = dk := ⟨_, rfl⟩
              rw [hpk] at xc
              rw [hdk] at yc
              have HPK := hide hpk
              have HDK := hide hdk
              clear hpk hdk
              go_wp2_with fail
              rw [unhide HW3]
              have ob0 : w3.cell? ⟨wr.heap.size, 0, none⟩ = some (.int .i64 kind) := by rw [← unhide HW3, cell_of_row _ _ 0 _ _ _ (heap_alloc_new _ _)]; rfl
              have ob1 : w3.cell? ⟨wr.heap.size, 1, none⟩ = some (.int .i64 oa) := by rw [← unhide HW3, cell_of_row _ _ 1 _ _ _ (heap_alloc_new _ _)]; rfl
              have ob2 : w3.cell? ⟨wr.heap.size, 2, none⟩ = some (.int .i64 ob) := by rw [← unhide HW3, cell_of_row _ _ 2 _ _ _ (heap_alloc_new _ _)]; rfl
              have ob3 : w3.cell? ⟨wr.heap.size, 3, none⟩ = some (.string os') := by rw [← unhide HW3, cell_of_row _ _ 3 _ _ _ (heap_alloc_new _ _)]; rfl
              have ob4 : w3.cell? ⟨wr.heap.size, 4, none⟩ = some (.string ot) := by rw [← unhide HW3, cell_of_row _ _ 4 _ _ _ (heap_alloc_new _ _)]; rfl
              have ob5 : w3.cell? ⟨wr.heap.size, 5, none⟩ = some (.slice va vn vc) := by rw [← unhide HW3, cell_of_row _ _ 5 _ _ _ (heap_alloc_new _ _)]; rfl
              have xc3 := (unhide T3).xcell k hk2
              have yc3 := (unhide T3).ycell k hk2
              rw [unhide HPK] at xc3
              rw [unhide HDK] at yc3
              have hpd : Hid (Pair w3.drew pk dk (S k) (b k)) := by
                have := (unhide T3).pair k hk2
                rw [unhide HPK, unhide HDK] at this
                exact this.below ((Below.refl _ w3).drew)
              rw [unhide HPK, unhide HDK] at BK
              have HNUM := hide (And.intro hq60 (And.intro hql' (And.intro hlen (And.intro hlo (And.intro hhi (And.intro hql (And.intro hlt (And.intro k26a (And.intro k26b (And.intro k1' hXY))))))))))
              clear c0 c1 c2 c3 c4 c5 xc yc hq60 hql' hlen hlo hhi hql hlt k26a k26b k1 k1' hXY hkb
              have hkI : (k : Int) < 2 := by omega
              have hXf : ¬ Foot pk (S k) w.heap.size := by rw [← unhide HPK]; exact fun h => ((unhide T3).off k hk2 _ h).2.1 rfl
              have hYf : ¬ Foot pk (S k) Y := by rw [← unhide HPK]; exact fun h => ((unhide T3).off k hk2 _ h).2.2 rfl
              have hOf : ¬ Foot pk (S k) wr.heap.size := by rw [← unhide HPK]; exact fun h => by have := (unhide hT).foot_lt hk2 h; omega
              have hXl : w.heap.size < w3.heap.size := (unhide T3).xlt
              have hYl : Y < w3.heap.size := (unhide T3).ylt
              have hOl : wr.heap.size < w3.heap.size := by rw [← unhide HW3]; simp
              have HF := hide (And.intro hXf (And.intro hYf (And.intro hOf (And.intro hXl (And.intro hYl hOl)))))
              clear hXf hYf hOf hXl hYl hOl
              go_region_held3 (fun w' => w'.cell? ⟨w.heap.size, k, none⟩ = some (.pointer (some ⟨pk, 0, none⟩)) ∧ w'.cell? ⟨Y, k, none⟩ = some (.pointer (some ⟨dk, 0, none⟩)) ∧ w'.cell? ⟨wr.heap.size, 0, none⟩ = some (.int .i64 kind) ∧ w'.cell? ⟨wr.heap.size, 1, none⟩ = some (.int .i64 oa) ∧ w'.cell? ⟨wr.heap.size, 2, none⟩ = some (.int .i64 ob) ∧ w'.cell? ⟨wr.heap.size, 3, none⟩ = some (.string os') ∧ w'.cell? ⟨wr.heap.size, 4, none⟩ = some (.string ot) ∧ w'.cell? ⟨wr.heap.size, 5, none⟩ = some (.slice va vn vc)) (first | exact kept8 (unhide HF) p4f xc3 yc3 ob0 ob1 ob2 ob3 ob4 ob5 | go_keep)
                (first | (go_at_call 34; refine (unhide BK _ (unhide hpd) hot).mono ?_; rintro e w4 ⟨rfl, p4, p4f⟩))
              obtain ⟨hq60, hql', hlen, hlo, hhi, hql, hlt, k26a, k26b, k1', hXY⟩ := unhide HNUM
              have HT4 : Hid (Two 2 w4 w.heap.size Y w.heap.size P D (upd S k (grow (S k) w3.drew w4)) (upd b k (stepB kind oa os' (b k)))) := by
                rw [← unhide HPK] at p4 p4f
                rw [← unhide HDK] at p4
                exact ((unhide T3).below ((Below.refl _ w3).drew)).step hk2 p4 p4f (unhide B3).size
              have HB4 : Hid (Below w.heap.size w w4) := by
                refine (unhide B3).drew.trans (p4f.below (B := w.heap.size) (unhide B3).size fun i hi => ?_)
                rw [← unhide HPK] at hi
                exact ((unhide T3).off k hk2 i hi).1
              clear p4 p4f BK HF HNUM
              go_wp2
              go_roundw
              case rel => exact ⟨q + 1, _, _, _, _, by omega, by go_num, HT4, HB4⟩
              case measure => simp [intOf]; omega
            · by_cases k0 : kind ≤ hi
              · have hk0 : kind ≤ 0 := by omega
                have FR := hide (fun w => free_low kind oa ob os' ot (.slice va vn vc) w hk0)
                have n2 : kind < 2 := by omega
                have n2' : ¬ 2 ≤ kind := by omega
                go_wp2_with fail
                rw [unhide HW3]
                refine (unhide FR _).mono ?_
                rintro e w4 ⟨rfl, b4⟩
                have HT4 := hide ((unhide T3).below b4)
                have HB4 := hide (below_step (unhide B3) b4)
                clear b4 FR
                go_wp2
                go_roundw
                case rel => exact ⟨q + 1, _, _, _, _, by omega, by go_num, HT4, HB4⟩
                case measure => simp [intOf]; omega
              · have n6 : hi < kind := by omega
                by_cases hlow : kind < 2
                · have d1 : decide (kind ≤ hi) = false := by simpa using n6
                  have d2 : decide (2 ≤ kind) = false := by simpa using hlow
                  have HN := hide (And.intro hlt hql)
                  clear k26 k0 k1 n6 hlow hlo hhi
                  go_upto_region 25 with fail
                  rw [unhide HW3]
                  go_wp2
                  go_roundw
                  case rel => exact ⟨q + 1, _, _, _, _, by omega, by go_num, T3, B3⟩
                  case measure => simp [intOf]; omega
                · have h7 : 6 < kind := by omega
                  have d1 : decide (kind ≤ hi) = false := by simpa using n6
                  have d2 : decide (2 ≤ kind) = true := by simp; omega
                  have d3 : decide (kind ≤ 6) = false := by simpa using h7
                  clear k26 k0 k1 n6 hlow hlo hhi h7
                  go_upto_region 25 with fail
                  rw [unhide HW3]
                  go_wp2
                  go_roundw
                  case rel => exact ⟨q + 1, _, _, _, _, by omega, by go_num, T3, B3⟩
                  case measure => simp [intOf]; omega
        · have hq' : q = len := by omega
          subst hq'
          go_wp2
          go_ret
          exact ⟨rfl, unhide hB⟩
end Go.Proofs.Ytmdjdpofpkgffab
