/- Choice: the plain part, and the walk. -/
import Derived.Test.YtmdjdpofpkgffaaSingles
import Derived.Test.YtmdjdpofpkgffaaEmbeds
namespace Go.Proofs.Ytmdjdpofpkgffaa
open Go.ChangeShapes Go.WideShapes Go.ChangeAt Go.RowKit
open Split (Pu Keeps payM byt byt_lt byt_ge headM doM numM digM bucM none8 scanF bodyM)
set_option linter.unusedVariables false
set_option linter.unusedSimpArgs false

theorem byt_app (a b : ByteArray) (i : Nat) : byt (a ++ b) i = if i < a.size then byt a i else byt b (i - a.size) := by
  have hs : (a ++ b).size = a.size + b.size := ByteArray.size_append
  by_cases h : i < a.size
  · rw [if_pos h, byt_lt (show i < (a ++ b).size by omega), byt_lt h, ByteArray.getElem_append_left h]
  · rw [if_neg h]
    by_cases h2 : i < a.size + b.size
    · rw [byt_lt (show i < (a ++ b).size by omega), byt_lt (show i - a.size < b.size by omega), ByteArray.getElem_append_right (by omega)]
    · rw [byt_ge (by omega), byt_ge (by omega)]

/-- What a policy's own check says of its reading. -/
theorem own_read {t : ByteArray} (hc : checkE t = 0) : t.size ≤ 120 ∧ okJ t 0 = true ∧ endJ t 0 = t.size := by
  obtain ⟨h1, h2, h3, h4, h5, h6⟩ := policy_code t hc
  have := end_stop t t.size 0 (by omega) (by omega) h5
  exact ⟨h1, h5, by have : ¬ endJ t 0 < t.size := h6; omega⟩

/-- A block of a text that holds a policy of its own. -/
theorem blk_own {T s : ByteArray} {j : Nat} (hB : BlkAt T j) (hs : checkE s = 0) (hz : j + 1 + s.size < T.size) (he : ∀ i, i < s.size → byt T (j + 1 + i) = byt s i) (h41 : byt T (j + 1 + s.size) = 41) :
    endJ T (j + 1) = j + 1 + s.size ∧ ∀ p, semF T (j + 1) p = semF s 0 p := by
  obtain ⟨h1, h2, h3⟩ := own_read hs
  have hE : Emb T s (j + 1) := ⟨by omega, he, by rw [h41]; rfl⟩
  obtain ⟨i1, i2, i3⟩ := emb_sem hE s.size 0 (by omega) (by omega) h2 hB.ok
  rw [h3] at i1 i2 i3
  have hst : ¬ (j + 1 + s.size < T.size ∧ byt T (j + 1 + s.size) ≠ 41) := fun hx => hx.2 h41
  refine ⟨?_, fun p => ?_⟩
  · rw [Nat.add_zero] at i2
    rw [i2, end_self (by omega) i1 hst]
  · have := i3 p
    rw [Nat.add_zero] at this
    rw [this, semF_stop hst]

theorem choice_sem {T s t : ByteArray} {k : Nat} {v : Int} (hz : T.size = 7 + s.size + 2 + t.size + 1) (b0 : byt T 0 = 73) (b1 : byt T 1 = 97 + (k : Int)) (hk : k < 8) (hn : numM T 2 4 = v)
    (e1 : ∀ i, i < s.size → byt T (7 + i) = byt s i) (c1 : byt T (7 + s.size) = 41) (e2 : ∀ i, i < t.size → byt T (7 + s.size + 2 + i) = byt t i) (c2 : byt T (7 + s.size + 2 + t.size) = 41)
    (hT : checkE T = 0) (hs : checkE s = 0) (ht : checkE t = 0) (zs : List Int) (m : Int) :
    shrM T zs m = if zs.getD k 0 ≤ v then shrM t zs m else shrM s zs m := by
  rw [shr_sem hT, shr_sem hs, shr_sem ht]
  obtain ⟨T1, T2, T3⟩ := own_read hT
  have hc : 0 < T.size ∧ byt T 0 ≠ 41 := ⟨by omega, by omega⟩
  obtain ⟨p1, p2, p3, p4, ho, p6, p7, hcase⟩ := step_places (Nat.zero_le _) T2 hc
  obtain ⟨hhd, hb2, hd4, hsz, hstm, hn0⟩ := capped (.inr b0) hc.1 ho
  rw [if_pos b0] at hhd
  simp only [Nat.zero_add] at hhd hstm
  rcases hcase with hx | ⟨hx, _⟩ | ⟨hx, hB, hB2⟩
  · rw [hhd] at hx; simp at hx
  · rw [hhd] at hx; simp at hx
  rw [hhd] at hB hB2
  dsimp only at hB hB2
  obtain ⟨f1, f2⟩ := blk_own hB hs (by omega) e1 c1
  rw [f1] at hB2
  obtain ⟨g1, g2⟩ := blk_own hB2 ht (by omega) e2 c2
  rw [semF_step (Nat.zero_le _) T2 hc]
  have hnx : nxM T 0 = T.size := by
    simp only [nxM, hhd]
    rw [f1, if_neg (by omega), if_neg (by omega)]
    rw [g1]; omega
  rw [hnx, semF_stop (by omega)]
  have hbk : (byt T 1 - 97).toNat = k := by omega
  simp only [stpM, hhd, hstm, hbk, hn]
  rw [if_neg (by omega), if_neg (by omega), f1, f2, g2]
  rfl

theorem choice_text (k : Nat) (hk : k < 8) (v : Int) (h0 : 0 ≤ v) (h9 : v < 10000) (s t : ByteArray) (T : ByteArray)
    (hT : ⟨#[73]⟩ ++ strOfNums [97 + (k : Int)] ++ strOfNums [48 + v / 1000, 48 + v / 100 % 10, 48 + v / 10 % 10, 48 + v % 10] ++ ⟨#[40]⟩ ++ s ++ ⟨#[41, 40]⟩ ++ t ++ ⟨#[41]⟩ = T) :
    T.size = 7 + s.size + 2 + t.size + 1 ∧ (checkE T = 0 → checkE s = 0 → checkE t = 0 → ∀ zs m, shrM T zs m = if zs.getD k 0 ≤ v then shrM t zs m else shrM s zs m) := by
  have eI : (⟨#[73]⟩ : ByteArray) = strOfNums [73] := rfl
  have eO : (⟨#[40]⟩ : ByteArray) = strOfNums [40] := rfl
  have eB : (⟨#[41, 40]⟩ : ByteArray) = strOfNums [41, 40] := rfl
  have eC : (⟨#[41]⟩ : ByteArray) = strOfNums [41] := rfl
  rw [eI, eO, eB, eC, str_app, str_app, str_app] at hT
  simp only [List.cons_append, List.nil_append] at hT
  have hbA := str_byt [73, 97 + (k : Int), 48 + v / 1000, 48 + v / 100 % 10, 48 + v / 10 % 10, 48 + v % 10, 40] (by simp; omega)
  have hzA := str_size [73, 97 + (k : Int), 48 + v / 1000, 48 + v / 100 % 10, 48 + v / 10 % 10, 48 + v % 10, 40]
  have hbB := str_byt [41, 40] (by simp)
  have hzB := str_size [41, 40]
  have hbC := str_byt [41] (by simp)
  have hzC := str_size [41]
  generalize strOfNums [73, 97 + (k : Int), 48 + v / 1000, 48 + v / 100 % 10, 48 + v / 10 % 10, 48 + v % 10, 40] = A at hT hbA hzA
  generalize strOfNums [41, 40] = B at hT hbB hzB
  generalize strOfNums [41] = C at hT hbC hzC
  simp only [List.length_cons, List.length_nil] at hzA hzB hzC hbA hbB hbC
  have z1 : (A ++ s).size = 7 + s.size := by rw [ByteArray.size_append]; omega
  have z2 : (A ++ s ++ B).size = 7 + s.size + 2 := by rw [ByteArray.size_append]; omega
  have z3 : (A ++ s ++ B ++ t).size = 7 + s.size + 2 + t.size := by rw [ByteArray.size_append]; omega
  have z4 : (A ++ s ++ B ++ t ++ C).size = 7 + s.size + 2 + t.size + 1 := by rw [ByteArray.size_append]; omega
  have lo : ∀ i, i < 7 → byt T i = byt A i := by
    intro i hi
    rw [← hT, byt_app, if_pos (by omega), byt_app, if_pos (by omega), byt_app, if_pos (by omega), byt_app, if_pos (by omega)]
  refine ⟨by rw [← hT]; exact z4, fun cT cs ct zs m => ?_⟩
  refine choice_sem (by rw [← hT]; exact z4) ?_ ?_ hk ?_ ?_ ?_ ?_ ?_ cT cs ct zs m
  · rw [lo 0 (by omega), hbA 0 (by omega)]; rfl
  · rw [lo 1 (by omega), hbA 1 (by omega)]; rfl
  · simp only [numM, Nat.add_zero, Nat.reduceAdd]
    rw [lo 2 (by omega), lo 3 (by omega), lo 4 (by omega), lo 5 (by omega), hbA 2 (by omega), hbA 3 (by omega), hbA 4 (by omega), hbA 5 (by omega)]
    show 10 * (10 * (10 * (10 * 0 + (48 + v / 1000 - 48)) + (48 + v / 100 % 10 - 48)) + (48 + v / 10 % 10 - 48)) + (48 + v % 10 - 48) = v
    omega
  · intro i hi
    rw [← hT, byt_app, if_pos (by omega), byt_app, if_pos (by omega), byt_app, if_pos (by omega), byt_app, if_neg (by omega)]
    rw [hzA, show 7 + i - (0 + 1 + 1 + 1 + 1 + 1 + 1 + 1) = i by omega]
  · rw [← hT, byt_app, if_pos (by omega), byt_app, if_pos (by omega), byt_app, if_neg (by omega), z1, Nat.sub_self, hbB 0 (by omega)]; rfl
  · intro i hi
    rw [← hT, byt_app, if_pos (by omega), byt_app, if_neg (by omega), z2, show 7 + s.size + 2 + i - (7 + s.size + 2) = i by omega]
  · rw [← hT, byt_app, if_neg (by omega), z3, Nat.sub_self, hbC 0 (by omega)]; rfl

set_option maxHeartbeats 4000000 in
theorem alike_true (a1 : Option Addr) (c1 : Nat) (a2 : Option Addr) (c2 : Nat) (L : List Int) (R : Int) (w : World) (h1 : Ints w a1 8 L) (h2 : Ints w a2 8 L) :
    Calls Try.prog 32 #[.agg #[.slice a1 8 c1, .int .i64 R, .bool true], .agg #[.slice a2 8 c2, .int .i64 R, .bool true]] w fun e w' => e = .returned (.bool true) ∧ Below w.heap.size w w' := by
  have H1 := hide h1
  have H2 := hide h2
  clear h1 h2
  have k1 : (R == R) = true := by simp
  have HB : Hid (Below w.heap.size w ((w.alloc (.cells #[.slice a1 8 c1, .int .i64 R, .bool true] 38)).alloc (.cells #[.slice a2 8 c2, .int .i64 R, .bool true] 38))) := ((Below.refl _ _).alloc (Nat.le_refl _) _).alloc (by simp) _
  go_enter Try.func32, Try.ntmps32
  go_wp2_with fail
  refine (same_any _ _ _ L _ _ _ L _ ((unhide H1).below (unhide HB)) ((unhide H2).below (unhide HB)) (by omega)).mono ?_
  rintro e w1 ⟨rfl, n1, rfl⟩
  rw [decide_eq_true (rfl : L = L)]
  go_wp2
  go_ret
  exact ⟨rfl, below_drewN (unhide HB) n1⟩

theorem sh_fit {t : ByteArray} {zs : List Int} {m : Int} (hc : checkE t = 0) (hg : givenE zs m = 0) : shE t zs m = 0 ∧ shL t zs m = (shrM t zs m).paid ∧ shR t zs m = (shrM t zs m).hand ∧ (shrM t zs m).paid.length = 8 := by
  have e : shE t zs m = 0 := by simp [shE, hc, hg]
  exact ⟨e, by simp [shL, e], by simp [shR, e], (shr_keeps hc hg).1.lp⟩
theorem sh_unfit {t : ByteArray} {zs : List Int} {m : Int} (h : ¬ (checkE t = 0 ∧ givenE zs m = 0)) : (shE t zs m == 0) = false ∧ (checkE t == 0 && givenE zs m == 0) = false := by
  constructor
  · simp only [beq_eq_false_iff_ne, ne_eq]
    intro he
    exact h (shE_parts he)
  · rw [Bool.and_eq_false_iff]
    by_cases hx : checkE t = 0
    · right
      simp only [beq_eq_false_iff_ne, ne_eq]
      exact fun hg => h ⟨hx, hg⟩
    · left
      simpa using hx

set_option maxRecDepth 100000 in
set_option maxHeartbeats 4000000 in
theorem choice_walk (bk ab : Int) (s t : ByteArray) (a : Option Addr) (len cap : Nat) (zs : List Int) (m : Int) (w : World) (hbk : (Lit.int .i64 bk).wf = true) (hab : (Lit.int .i64 ab).wf = true) (hs : s.size ≤ 140737488351232) (ht : t.size ≤ 140737488351232) (h : Ints w a len zs) (hwf : ∀ n ∈ zs, (Lit.int .i64 n).wf = true) (hr : len * 8 ≤ 140737488351232) (hm : (Lit.int .i64 m).wf = true) :
    Calls Try.prog 11 #[.int .i64 bk, .int .i64 ab, .string s, .string t, .slice a len cap, .int .i64 m] w fun e w' => e = .returned (.bool true) ∧ Below w.heap.size w w' := by
  have HI := hide h
  have HL := hide (letter_any bk w)
  have HF := hide (four_any ab · hab)
  clear h hwf hm hbk hab
  obtain ⟨k, hk, hk8⟩ : ∃ k : Nat, bk % 8 = k ∧ k < 8 := ⟨(bk % 8).toNat, by omega, by omega⟩
  obtain ⟨v, hv, hv0, hv9⟩ : ∃ v : Int, ab % 10000 = v ∧ 0 ≤ v ∧ v < 10000 := ⟨_, rfl, by omega, by omega⟩
  rw [hk] at HL
  rw [hv] at HF
  clear hk hv
  obtain ⟨X1, x1⟩ : ∃ X, (⟨#[73]⟩ ++ strOfNums [97 + (k : Int)] : ByteArray) = X := ⟨_, rfl⟩
  obtain ⟨X2, x2⟩ : ∃ X, X1 ++ strOfNums [48 + v / 1000, 48 + v / 100 % 10, 48 + v / 10 % 10, 48 + v % 10] = X := ⟨_, rfl⟩
  obtain ⟨X3, x3⟩ : ∃ X, (X2 ++ ⟨#[40]⟩ : ByteArray) = X := ⟨_, rfl⟩
  obtain ⟨X4, x4⟩ : ∃ X, X3 ++ s = X := ⟨_, rfl⟩
  obtain ⟨X5, x5⟩ : ∃ X, (X4 ++ ⟨#[41, 40]⟩ : ByteArray) = X := ⟨_, rfl⟩
  obtain ⟨X6, x6⟩ : ∃ X, X5 ++ t = X := ⟨_, rfl⟩
  obtain ⟨T, x7⟩ : ∃ X, (X6 ++ ⟨#[41]⟩ : ByteArray) = X := ⟨_, rfl⟩
  have y1 : X1.size = 2 := by rw [← x1, ByteArray.size_append, str_size]; rfl
  have y2 : X2.size = 6 := by rw [← x2, ByteArray.size_append, str_size, y1]; rfl
  have y3 : X3.size = 7 := by rw [← x3, ByteArray.size_append, y2]; rfl
  have y4 : X4.size = 7 + s.size := by rw [← x4, ByteArray.size_append, y3]
  have y5 : X5.size = 7 + s.size + 2 := by rw [← x5, ByteArray.size_append, y4]; rfl
  have y6 : X6.size = 7 + s.size + 2 + t.size := by rw [← x6, ByteArray.size_append, y5]
  obtain ⟨hz, hsem⟩ := choice_text k hk8 v hv0 hv9 s t T (by rw [x1, x2, x3, x4, x5, x6, x7])
  have hTz : T.size ≤ 1000000000000000 := by omega
  have hsz : s.size ≤ 1000000000000000 := by omega
  have htz : t.size ≤ 1000000000000000 := by omega
  have ST := hide (share_any T zs m hTz)
  have SS := hide (share_any s zs m hsz)
  have SU := hide (share_any t zs m htz)
  have HSEM := hide hsem
  clear hsem hz
  by_cases hfit : checkE T = 0 ∧ givenE zs m = 0
  · obtain ⟨hc, hg⟩ := hfit
    obtain ⟨eT, lT, rT, nT⟩ := sh_fit hc hg
    rw [lT, rT, eT] at ST
    have HFT : Hid ((checkE T == 0 && givenE zs m == 0) = true) := by
      show _ = true
      simp [hc, hg]
    obtain ⟨hz8, hzb, hm0, hm9⟩ := given_ok hg
    have h8 : len = 8 := by rw [← (unhide HI).1, hz8]
    subst h8
    generalize shP T zs m = pT at ST
    obtain ⟨q, hq⟩ : ∃ q, shrM T zs m = q := ⟨_, rfl⟩
    rw [hq] at ST nT
    have HQ := hide hq
    clear hq
    obtain ⟨fs, hfs⟩ : ∃ b, (checkE s == 0 && givenE zs m == 0) = b := ⟨_, rfl⟩
    obtain ⟨fu, hfu⟩ : ∃ b, (checkE t == 0 && givenE zs m == 0) = b := ⟨_, rfl⟩
    have HFS := hide hfs
    have HFU := hide hfu
    clear hfs hfu
    have HCG := hide (And.intro hc hg)
    have HNT := hide nT
    clear eT lT rT nT hc hg hz8 hzb
    obtain ⟨b1, o1, hae, hc1⟩ := (unhide HI).2 (by omega)
    have HC := hide (hc1 k hk8)
    clear hc1
    subst hae
    have hbl : b1 < w.heap.size := cell_blk (unhide HC)
    have hk' : (k : Int) < 8 := by omega
    go_enter Try.func11, Try.ntmps11
    go_wp2_with fail
    refine (unhide HL).mono ?_
    rintro e w1 ⟨rfl, hb1⟩
    have B1 := hide hb1
    clear hb1 HL
    go_wp2_with fail
    refine (unhide HF _).mono ?_
    rintro e w2 ⟨rfl, hb2⟩
    have B2 := hide (below_step (unhide B1) hb2)
    clear hb2 HF B1
    go_wp2_with fail
    refine (lshare_of T zs m _ _ _ _ (unhide ST) _ _ _ _ ((unhide HI).below (unhide B2)) hr).mono ?_
    rintro e w3 ⟨a3, n3, c3, rfl, hi3, hb3⟩
    have hn3 : n3 = 8 := by rw [← hi3.1]; exact unhide HNT
    subst hn3
    have I3 := hide hi3
    have B3 := hide (below_step (unhide B2) hb3)
    clear hi3 hb3 B2 ST
    go_wp2_with fail
    obtain ⟨W3, hW3⟩ : ∃ W, w3.alloc (.cells #[.slice a3 8 c3, .int .i64 q.hand, .bool true] 38) = W := ⟨_, rfl⟩
    have hr3 : W3.heap[w3.heap.size]? = some (.cells #[.slice a3 8 c3, .int .i64 q.hand, .bool true] 38 (0, 0)) := by rw [← hW3]; exact heap_alloc_new _ _
    have hb3 : Below w3.heap.size w3 W3 := by rw [← hW3]; exact (Below.refl _ _).alloc (Nat.le_refl _) _
    rw [hW3]
    have J3 := hide ((unhide I3).below hb3)
    have C3 := hide (below_step (unhide B3) hb3)
    clear hW3 I3 B3 hb3
    obtain ⟨g3, hg3⟩ : ∃ g, w3.heap.size = g := ⟨_, rfl⟩
    rw [hg3] at hr3 ⊢
    clear hg3
    have R3 := hide hr3
    clear hr3
    refine (fit_any T _ 8 cap zs m _ hTz ((unhide HI).below (unhide C3)) hr).mono ?_
    rintro e w4 ⟨rfl, n4, hw4⟩
    rw [unhide HFT]
    have hb4 : Below W3.heap.size W3 w4 := by rw [hw4]; exact below_drewN (Below.refl _ _) _
    have J4 := hide ((unhide J3).below hb4)
    have C4 := hide (below_step (unhide C3) hb4)
    have R4 := hide ((hb4.block g3 (cell_lt (unhide R3))).trans (unhide R3))
    clear hw4 hb4 J3 C3 R3
    go_wp2_with fail
    refine (fit_any s _ 8 cap zs m _ hsz ((unhide HI).below (unhide C4)) hr).mono ?_
    rintro e w5 ⟨rfl, n5, hw5⟩
    rw [unhide HFS]
    have hb5 : Below w4.heap.size w4 w5 := by rw [hw5]; exact below_drewN (Below.refl _ _) _
    have J5 := hide ((unhide J4).below hb5)
    have C5 := hide (below_step (unhide C4) hb5)
    have R5 := hide ((hb5.block g3 (cell_lt (unhide R4))).trans (unhide R4))
    clear hw5 hb5 J4 C4 R4
    go_wp2_with fail
    refine (fit_any t _ 8 cap zs m _ htz ((unhide HI).below (unhide C5)) hr).mono ?_
    rintro e w6 ⟨rfl, n6, hw6⟩
    rw [unhide HFU]
    have hb6 : Below w5.heap.size w5 w6 := by rw [hw6]; exact below_drewN (Below.refl _ _) _
    have J6 := hide ((unhide J5).below hb6)
    have C6 := hide (below_step (unhide C5) hb6)
    have R6 := hide ((hb6.block g3 (cell_lt (unhide R5))).trans (unhide R5))
    clear hw6 hb6 J5 C5 R5
    have p0 := cell_of_row w6 g3 0 _ _ _ (unhide R6)
    have p1 := cell_of_row w6 g3 1 _ _ _ (unhide R6)
    have p2 := cell_of_row w6 g3 2 _ _ _ (unhide R6)
    simp at p0 p1 p2
    cases fs
    · go_wp2_with fail
      go_ret
      exact ⟨rfl, unhide C6⟩
    cases fu
    · go_wp2_with fail
      go_ret
      exact ⟨rfl, unhide C6⟩
    have HFIT : Hid (checkE s = 0 ∧ checkE t = 0) := by
      have h1 := unhide HFS
      have h2 := unhide HFU
      simp at h1 h2
      exact ⟨h1.1, h2.1⟩
    have ck : w6.cell? ⟨b1, o1 + k, none⟩ = some (.int .i64 (zs.getD k 0)) := ((unhide C6).cell (p := ⟨b1, o1 + k, none⟩) hbl).trans (unhide HC)
    obtain ⟨zk, hzk⟩ : ∃ z, zs.getD k 0 = z := ⟨_, rfl⟩
    rw [hzk] at ck
    have HZ := hide hzk
    clear hzk HFS HFU
    by_cases hxv : v < zk
    · have hsel : Hid (shrM s zs m = q) := by
        have := unhide HSEM (unhide HCG).1 (unhide HFIT).1 (unhide HFIT).2 zs m
        rw [unhide HQ, unhide HZ, if_neg (by omega)] at this
        exact this.symm
      have hfit2 := sh_fit (t := s) (zs := zs) (m := m) (unhide HFIT).1 (unhide HCG).2
      rw [hfit2.2.1, hfit2.2.2.1, hfit2.1, unhide hsel] at SS
      generalize shP s zs m = pp at SS
      clear hfit2
      have hne : decide (v < zk) = true := by simp; omega
      go_wp2_with fail
      refine (lshare_of s zs m _ _ _ _ (unhide SS) _ _ _ _ ((unhide HI).below (unhide C6)) hr).mono ?_
      rintro e w7 ⟨a7, n7, c7, rfl, hi7, hb7⟩
      have hn7 : n7 = 8 := by rw [← hi7.1]; exact unhide HNT
      subst hn7
      have I7 := hide hi7
      have J7 := hide ((unhide J6).below hb7)
      have C7 := hide (below_step (unhide C6) hb7)
      have R7 := hide ((hb7.block g3 (cell_lt (unhide R6))).trans (unhide R6))
      clear hi7 hb7 p0 p1 p2 ck
      have p0 := cell_of_row w7 g3 0 _ _ _ (unhide R7)
      have p1 := cell_of_row w7 g3 1 _ _ _ (unhide R7)
      have p2 := cell_of_row w7 g3 2 _ _ _ (unhide R7)
      simp at p0 p1 p2
      have hg3 : g3 < w7.heap.size := cell_lt (unhide R7)
      go_wp2_with fail
      have HB8 : Hid (Below w7.heap.size w7 (w7.alloc (.cells #[.slice a7 8 c7, .int .i64 q.hand, .bool true] 38))) := (Below.refl _ _).alloc (Nat.le_refl _) _
      refine (alike_true a3 c3 a7 c7 q.paid q.hand _ ((unhide J7).below (unhide HB8)) ((unhide I7).below (unhide HB8))).mono ?_
      rintro e w9 ⟨rfl, hb9⟩
      have C9 := hide (below_step (below_step (unhide C7) (unhide HB8)) hb9)
      clear hb9 p0 p1 p2
      go_wp2_with fail
      go_ret
      exact ⟨rfl, unhide C9⟩
    · have hsel : Hid (shrM t zs m = q) := by
        have := unhide HSEM (unhide HCG).1 (unhide HFIT).1 (unhide HFIT).2 zs m
        rw [unhide HQ, unhide HZ, if_pos (by omega)] at this
        exact this.symm
      have hfit2 := sh_fit (t := t) (zs := zs) (m := m) (unhide HFIT).2 (unhide HCG).2
      rw [hfit2.2.1, hfit2.2.2.1, hfit2.1, unhide hsel] at SU
      generalize shP t zs m = pp at SU
      clear hfit2
      have hne : decide (v < zk) = false := by simp; omega
      go_wp2_with fail
      refine (lshare_of t zs m _ _ _ _ (unhide SU) _ _ _ _ ((unhide HI).below (unhide C6)) hr).mono ?_
      rintro e w7 ⟨a7, n7, c7, rfl, hi7, hb7⟩
      have hn7 : n7 = 8 := by rw [← hi7.1]; exact unhide HNT
      subst hn7
      have I7 := hide hi7
      have J7 := hide ((unhide J6).below hb7)
      have C7 := hide (below_step (unhide C6) hb7)
      have R7 := hide ((hb7.block g3 (cell_lt (unhide R6))).trans (unhide R6))
      clear hi7 hb7 p0 p1 p2 ck
      have p0 := cell_of_row w7 g3 0 _ _ _ (unhide R7)
      have p1 := cell_of_row w7 g3 1 _ _ _ (unhide R7)
      have p2 := cell_of_row w7 g3 2 _ _ _ (unhide R7)
      simp at p0 p1 p2
      have hg3 : g3 < w7.heap.size := cell_lt (unhide R7)
      go_wp2_with fail
      have HB8 : Hid (Below w7.heap.size w7 (w7.alloc (.cells #[.slice a7 8 c7, .int .i64 q.hand, .bool true] 38))) := (Below.refl _ _).alloc (Nat.le_refl _) _
      refine (alike_true a3 c3 a7 c7 q.paid q.hand _ ((unhide J7).below (unhide HB8)) ((unhide I7).below (unhide HB8))).mono ?_
      rintro e w9 ⟨rfl, hb9⟩
      have C9 := hide (below_step (below_step (unhide C7) (unhide HB8)) hb9)
      clear hb9 p0 p1 p2
      go_wp2_with fail
      go_ret
      exact ⟨rfl, unhide C9⟩
  · obtain ⟨u1, u2⟩ := sh_unfit hfit
    have HU1 := hide u1
    have HU2 := hide u2
    generalize shL T zs m = lT at ST
    generalize shR T zs m = rT at ST
    generalize shP T zs m = pT at ST
    clear u1 u2
    go_enter Try.func11, Try.ntmps11
    go_wp2_with fail
    refine (unhide HL).mono ?_
    rintro e w1 ⟨rfl, hb1⟩
    have B1 := hide hb1
    clear hb1 HL
    go_wp2_with fail
    refine (unhide HF _).mono ?_
    rintro e w2 ⟨rfl, hb2⟩
    have B2 := hide (below_step (unhide B1) hb2)
    clear hb2 HF B1
    go_wp2_with fail
    refine (lshare_of T zs m _ _ _ _ (unhide ST) _ _ _ _ ((unhide HI).below (unhide B2)) hr).mono ?_
    rintro e w3 ⟨a3, n3, c3, rfl, hi3, hb3⟩
    rw [unhide HU1, Bool.false_and]
    have B3 := hide (below_step (unhide B2) hb3)
    clear hi3 hb3 B2 ST
    go_wp2_with fail
    obtain ⟨W3, hW3⟩ : ∃ W, w3.alloc (.cells #[.slice a3 n3 c3, .int .i64 rT, .bool false] 38) = W := ⟨_, rfl⟩
    have hr3 : W3.heap[w3.heap.size]? = some (.cells #[.slice a3 n3 c3, .int .i64 rT, .bool false] 38 (0, 0)) := by rw [← hW3]; exact heap_alloc_new _ _
    have hb3 : Below w3.heap.size w3 W3 := by rw [← hW3]; exact (Below.refl _ _).alloc (Nat.le_refl _) _
    rw [hW3]
    have C3 := hide (below_step (unhide B3) hb3)
    clear hW3 B3 hb3
    obtain ⟨g3, hg3⟩ : ∃ g, w3.heap.size = g := ⟨_, rfl⟩
    rw [hg3] at hr3 ⊢
    clear hg3
    have R3 := hide hr3
    clear hr3
    refine (fit_any T _ _ cap zs m _ hTz ((unhide HI).below (unhide C3)) hr).mono ?_
    rintro e w4 ⟨rfl, n4, hw4⟩
    rw [unhide HU2]
    have hb4 : Below W3.heap.size W3 w4 := by rw [hw4]; exact below_drewN (Below.refl _ _) _
    have C4 := hide (below_step (unhide C3) hb4)
    have p2 := cell_of_row w4 g3 2 _ _ _ ((hb4.block g3 (cell_lt (unhide R3))).trans (unhide R3))
    simp at p2
    clear hw4 hb4
    go_wp2_with fail
    go_ret
    exact ⟨rfl, unhide C4⟩
end Go.Proofs.Ytmdjdpofpkgffaa
