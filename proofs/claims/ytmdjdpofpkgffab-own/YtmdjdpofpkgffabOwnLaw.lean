/- OwnLaw: Own: the walk. -/
import Derived.Test.YtmdjdpofpkgffabShown
import Derived.Test.YtmdjdpofpkgffabListRow
namespace Go.Proofs.Ytmdjdpofpkgffab
open Go.ChangeShapes Go.WideShapes Go.ChangeAt Go.RowKit
open Split
set_option linter.unusedVariables false
set_option linter.unusedSimpArgs false

set_option maxHeartbeats 1000000 in
/-- Every number of a list becomes another one: the list's own block alone is written. -/
theorem spoil_any (a : Option Addr) (len cap : Nat) (zs : List Int) (w : World) (h : 0 < len → IntsF w a len zs) (hz : ∀ i, 0 ≤ zs.getD i 0 ∧ zs.getD i 0 ≤ 1000000000) (hl : len ≤ 8) :
    Calls Try.prog 33 #[.slice a len cap] w fun e w' => e = .returned (.tuple #[]) ∧ Fr (fun k => 0 < len ∧ ∃ p, a = some p ∧ k = p.block) w w' := by
  by_cases h0 : len = 0
  · subst h0
    clear h hz hl
    go_enter Try.func33, Try.ntmps33
    go_wp2
    go_loopw [2] (fun i wr => i = .int .i64 0 ∧ w = wr) (fun _ _ => 0)
    case atStart => exact ⟨rfl, rfl⟩
    case round =>
      obtain ⟨rfl, rfl⟩ := hrel
      go_wp2
      go_end0
      exact ⟨rfl, Fr.refl _ _⟩
  · have hp0 : 0 < len := by omega
    replace h := h hp0
    obtain ⟨g, off, rfl, hcs⟩ := h.1.2 (by omega)
    have HC : Hid (∀ j, 0 ≤ j → j < len → w.cell? ⟨g, off + j, none⟩ = some (.int .i64 (zs.getD j 0))) := fun j _ hj => hcs j hj
    have HFZ : Hid (∀ i, w.frozen? ⟨g, i, none⟩ = false) := h.2 _ rfl
    have HZ := hide hz
    clear h hcs hz
    go_enter Try.func33, Try.ntmps33
    go_wp2_with fail
    go_loopw [2] (fun i wr => ∃ k : Nat, k ≤ len ∧ i = .int .i64 k ∧ Hid (∀ j, k ≤ j → j < len → wr.cell? ⟨g, off + j, none⟩ = some (.int .i64 (zs.getD j 0))) ∧ Hid (∀ i, wr.frozen? ⟨g, i, none⟩ = false) ∧ Hid (Fr (fun k => 0 < len ∧ ∃ p, some (⟨g, off, none⟩ : Addr) = some p ∧ k = p.block) w wr)) (fun i _ => len - (intOf i).toNat)
    case atStart => exact ⟨0, Nat.zero_le _, rfl, HC, HFZ, Fr.refl _ _⟩
    case round =>
      obtain ⟨k, hk, rfl, hc, hfz, hf⟩ := hrel
      clear HC HFZ
      by_cases hlt : k < len
      · have ck := unhide hc k (Nat.le_refl _) hlt
        have fk := unhide hfz (off + k)
        have hb := unhide HZ k
        obtain ⟨z, hze⟩ : ∃ z, zs.getD k 0 = z := ⟨_, rfl⟩
        rw [hze] at ck hb
        clear hze
        go_wp2
        go_roundw
        case rel =>
          refine ⟨k + 1, by omega, by go_num, fun j h1 h2 => ?_, fun i => ?_, ?_⟩
          · have hne : (⟨g, off + k, none⟩ : Addr) ≠ ⟨g, off + j, none⟩ := by
              intro e
              simp only [Addr.mk.injEq, true_and, and_true] at e
              omega
            exact (World.cell?_setCell_other wr _ _ _ hne).trans (unhide hc j (by omega) h2)
          · rw [World.frozen?_setCell]
            exact unhide hfz i
          · exact (unhide hf).set (p := ⟨g, off + k, none⟩) (.inl ⟨hp0, _, rfl, rfl⟩) _
        case measure => simp [intOf]; omega
      · go_wp2
        go_end0
        exact ⟨rfl, unhide hf⟩

theorem shL_bd (t : ByteArray) (zs : List Int) (m : Int) : ∀ i, 0 ≤ (shL t zs m).getD i 0 ∧ (shL t zs m).getD i 0 ≤ 1000000000 := by
  intro i
  by_cases hE : shE t zs m = 0
  · obtain ⟨hc, hg⟩ := shE_parts hE
    have hk := (shr_keeps hc hg).1
    simp only [shL, if_pos hE]
    have h1 := hk.pa i
    have h2 := hk.tot i
    have h3 := hk.ow i
    have h4 := hk.o9 i
    omega
  · simp only [shL, if_neg hE]
    simp

set_option maxRecDepth 100000 in
set_option maxHeartbeats 4000000 in
theorem own_walk (a : Option Addr) (len cap : Nat) (os : List OpM) (t : ByteArray) (va : Option Addr) (vlen vcap : Nat) (vs : List Int) (m : Int) (w : World) (h : Ops w a len os) (hlen : len * 80 ≤ 140737488351232) (ht : t.size ≤ 140737488351232) (hv : Ints w va vlen vs) (hvw : ∀ n ∈ vs, (Lit.int .i64 n).wf = true) (hvl : vlen * 8 ≤ 140737488351232) (hm : (Lit.int .i64 m).wf = true) :
    Calls Try.prog 9 #[.slice a len cap, .string t, .slice va vlen vcap, .int .i64 m] w fun e w' => e = .returned (.bool true) ∧ Below w.heap.size w w' := by
  have HO := hide h
  have HV := hide hv
  clear h hv
  go_enter Try.func9, Try.ntmps9
  go_wp2_with fail
  refine (snew_any _).mono ?_
  rintro e w1 ⟨rfl, s1, b1⟩
  have S1 := hide s1
  have B1 := hide b1
  clear s1 b1
  go_wp2_with fail
  refine (rnew_any _).mono ?_
  rintro e w2 ⟨D, rfl, _, r2, b2⟩
  obtain ⟨p2, bb2, q2⟩ := pair_new (unhide S1) (unhide B1) r2 b2
  have P2 := hide p2
  have BB2 := hide bb2
  have Q2 := hide q2
  clear S1 B1 r2 b2 p2 bb2 q2
  go_wp2_with fail
  go_loopw [11] (fun i wr => ∃ (q : Nat) (S : Nat → Prop) (b : Bk), q ≤ len ∧ i = .int .i64 q ∧ Hid (Pair wr w.heap.size D S b) ∧ Hid (∀ k, Foot w.heap.size S k → w.heap.size ≤ k) ∧ Hid (Below w.heap.size w wr)) (fun i _ => len - (intOf i).toNat)
  case atStart => exact ⟨0, _, _, by omega, rfl, P2, Q2, BB2⟩
  case round =>
    clear P2 Q2 BB2
    obtain ⟨q, S, b, hql, rfl, hP, hQ, hB⟩ := hrel
    by_cases hlt : q < len
    · have hO := unhide HO
      obtain ⟨o, ho⟩ : ∃ o, os[q]? = some o := ⟨_, List.getElem?_eq_getElem (by rw [hO.cnt]; exact hlt)⟩
      have hot : o.s.size ≤ 1000000000000000 := hO.txt o (List.mem_of_getElem? ho)
      obtain ⟨g, off, rfl, hmem⟩ := hO.mem (by omega)
      have hat := hmem q o ho
      have hgl : g < w.heap.size := hat.lt
      obtain ⟨c0, c1, c2, c3, c4, c5⟩ := hat.below (unhide hB) hgl
      obtain ⟨kind, oa, ob, os', ot, va', vn', vc'⟩ := o
      simp only at c0 c1 c2 c3 c4 c5 hot
      clear hO hmem hat ho
      have hq60 : (q : Int) < 1152921504606846976 := by omega
      have hql' : (q : Int) < (len : Int) := by omega
      obtain ⟨w3, hw3⟩ : ∃ w3, wr.alloc (.cells #[.int .i64 kind, .int .i64 oa, .int .i64 ob, .string os', .string ot, .slice va' vn' vc'] 46) = w3 := ⟨_, rfl⟩
      have hb3 : Below wr.heap.size wr w3 := by rw [← hw3]; exact (Below.refl _ _).alloc (Nat.le_refl _) _
      have P3 := hide ((unhide hP).below hb3)
      have B3 := hide (below_step (unhide hB) hb3)
      have HW3 := hide hw3
      clear hw3 hb3
      by_cases k5 : kind = 5
      · subst k5
        go_wp2_with fail
        rw [unhide HW3]
        refine (spay_row w.heap.size b oa _ (unhide P3).sb (unhide P3).ok).mono ?_
        rintro e w4 ⟨a4, n4, c4', rfl, i4, ha4, s4, f4⟩
        clear hq60 hql' c0 c1 c2 c3 c4 c5
        have I4 := hide i4
        have A4 := hide ha4
        have hn4 : n4 ≤ 8 := by rw [← i4.1.1]; exact payL_len b.now oa
        have S4 := hide s4
        have F4 := hide f4
        have R4 := hide (pair_mid (unhide P3) f4)
        have hPL : Hid (∀ i, 0 ≤ (payL b.now oa).getD i 0 ∧ (payL b.now oa).getD i 0 ≤ 1000000000) := by
          by_cases hE : payE b.now oa = 0
          · intro i
            have h1 := (pay_parts (unhide P3).ok.now hE).2.1 i
            have h2 := (unhide P3).ok.now.am i
            omega
          · have : ¬ shE b.now.pol b.now.owed oa = 0 := hE
            intro i
            simp only [payL, shL, if_neg this]
            simp
        clear i4 ha4 s4 f4
        have ob1 : w4.cell? ⟨wr.heap.size, 1, none⟩ = some (.int .i64 oa) := by
          have hlt3 : wr.heap.size < w3.heap.size := by rw [← unhide HW3]; simp
          have hne : ¬ wr.heap.size = w.heap.size := by have := (unhide hP).lt; omega
          rw [World.cell?_of_block (w := w3) (a := ⟨wr.heap.size, 1, none⟩) ((unhide F4).block _ hlt3 hne), ← unhide HW3, cell_of_row _ _ 1 _ _ _ (heap_alloc_new _ _)]
          rfl
        generalize hce : payE b.now oa = ce at *
        generalize hcr : payR b.now oa = cr at *
        generalize hcl : payL b.now oa = cl at *
        go_wp2_with fail
        refine (rbpay_any D S b oa _ (unhide R4) (unhide P3).ok).mono ?_
        rintro e w5 ⟨a5, n5, c5', rfl, i5, r5, f5⟩
        rw [hcl] at i5
        have Q5 := pair_step (unhide P3) (unhide S4) (unhide F4) r5 f5 (payB_ok (unhide P3).ok oa)
        have I5 := hide i5
        have hSin := hide (unhide P3).rb.inb
        have hnot : ∀ p, a4 = some p → ¬ S p.block := fun p hp hS => by have h1 := unhide A4 p hp; have h2 := unhide hSin _ hS; omega
        have K5 := hide (f5.ints (unhide I4).1 hnot)
        have J5 : Hid (0 < n4 → IntsF w5 a4 n4 cl) := fun hn => by
          obtain ⟨n, rfl⟩ : ∃ n, n4 = n + 1 := ⟨n4 - 1, by omega⟩
          exact f5.intsF (unhide I4) hnot
        have L4 : Hid (0 < n4 → ∀ p, a4 = some p → p.block < w4.heap.size) := fun hn p hp => (unhide I4).1.block_lt hn hp
        have P5 : Hid (Pair w5 w.heap.size D (grow S w4 w5) (payB b oa)) := ⟨SRow.fr (unhide S4) f5 (unhide P3).np, r5, by rintro (h1 | h1); exact (unhide P3).np h1; have := SRow.lt (unhide S4); omega, payB_ok (unhide P3).ok oa⟩
        have F5 := hide Q5.2
        have hz43 : w3.heap.size ≤ w4.heap.size := (unhide F4).size
        have hz45 : w4.heap.size ≤ w5.heap.size := f5.size
        clear hnot
        rw [hce, hcr]
        clear i5 r5 f5 Q5 hce hcr hcl ob1
        go_wp2_with fail
        refine (same_any _ _ _ cl _ _ _ cl _ (unhide K5) (unhide I5) (by omega)).mono ?_
        rintro e w6 ⟨rfl, n6, hw6⟩
        have hb6 : Below w5.heap.size w5 w6 := by rw [hw6]; exact below_drewN (Below.refl _ _) _
        have J6 : Hid (0 < n4 → IntsF w6 a4 n4 cl) := by
          rw [hw6]
          exact unhide J5
        have P6 := hide ((unhide P5).below hb6)
        have B6 := hide (below_step ((unhide B3).trans ((unhide F5).below (unhide B3).size (unhide hQ))) hb6)
        clear hw6 hb6 J5 I5 K5
        rw [decide_eq_true (rfl : cl = cl)]
        go_wp2_with fail
        refine (spoil_any _ _ _ cl _ (unhide J6) (unhide hPL) hn4).mono ?_
        rintro e w7 ⟨rfl, f7⟩
        have hP3 := (unhide P3).lt
        have P7 := hide ((unhide P6).keep f7 (by rintro ⟨_, p, hp, e⟩; have := unhide A4 p hp; omega) (by
          rintro k hk ⟨hn, p, hp, e⟩
          have h1 := unhide A4 p hp
          have h2 := unhide L4 hn p hp
          rcases hk with hk | hk
          · have := unhide hSin k hk
            omega
          · omega))
        have Q7 : Hid (∀ k, Foot w.heap.size (grow S w4 w5) k → w.heap.size ≤ k) := by
          rintro k (h1 | h1 | h1)
          · exact unhide hQ k (.inl h1)
          · exact unhide hQ k (.inr h1)
          · have := (unhide B3).size
            omega
        have B7 := hide ((unhide B6).trans (f7.below (unhide B6).size (by rintro k ⟨_, p, hp, e⟩; have := unhide A4 p hp; have := (unhide B3).size; omega)))
        clear f7 J6 A4 L4 P5 P6 B6 F5
        go_wp2_with fail
        refine (sowed_row w.heap.size (payB b oa) _ (unhide P7).sb (unhide P7).ok).mono ?_
        rintro e w8 ⟨g8, rfl, hg8, hl8, i8, b8⟩
        have I8 := hide i8
        have P8 := hide ((unhide P7).below b8)
        have B8 := hide (below_step (unhide B7) b8)
        have hPX := (unhide P7).lt
        have SX := hide (unhide P7).rb.inb
        have hWX : w.heap.size ≤ w7.heap.size := (unhide B7).size
        clear i8 b8
        go_wp2_with fail
        refine (rowed_any D _ _ _ (unhide P8).rb).mono ?_
        rintro e w9 ⟨a9, c9, rfl, l9, hw9⟩
        have hw9 := hw9.symm
        subst hw9
        have I9 := hide l9.ints
        clear l9
        go_wp2_with fail
        refine (same_any _ _ _ (payB b oa).now.owed _ _ _ (payB b oa).now.owed _ (unhide I8).1 (unhide I9) (by omega)).mono ?_
        rintro e w10 ⟨rfl, n10, hw10⟩
        have hb10 : Below w8.heap.size w8 w10 := by rw [hw10]; exact below_drewN (Below.refl _ _) _
        have I10 := hide ((Fr.of_below (S := fun _ => False) hb10).intsF (unhide I8) (fun _ _ => id))
        have P10 := hide ((unhide P8).below hb10)
        have B10 := hide (below_step (unhide B8) hb10)
        clear hw10 hb10 I8 I9 B8
        rw [decide_eq_true (rfl : (payB b oa).now.owed = (payB b oa).now.owed)]
        go_wp2_with fail
        refine (spoil_any _ _ _ (payB b oa).now.owed _ (fun _ => unhide I10) (unhide P10).ok.now.am (by omega)).mono ?_
        rintro e w11 ⟨rfl, f11⟩
        have P11 := hide ((unhide P10).keep f11 (by rintro ⟨_, p, hp, e⟩; simp only [Option.some.injEq] at hp; subst hp; simp only at e; omega) (by rintro k hk ⟨_, p, hp, e⟩; have := unhide SX k hk; simp only [Option.some.injEq] at hp; subst hp; simp only at e; omega))
        have B11 := hide ((unhide B10).trans (f11.below (unhide B10).size (by rintro k ⟨_, p, hp, e⟩; simp only [Option.some.injEq] at hp; subst hp; simp only at e; omega)))
        clear f11 I10 P10 B10 P8
        go_wp2
        go_roundw
        case rel => exact ⟨q + 1, _, _, by omega, by go_num, P11, Q7, B11⟩
        case measure => simp [intOf]; omega
      · have k5' : (kind == 5) = false := by simpa using k5
        have BK := hide (fun w1 h => book_any w.heap.size D S b kind oa ob os' ot (.slice va' vn' vc') w1 h hot)
        go_wp2_with fail
        rw [unhide HW3]
        refine (unhide BK _ (unhide P3)).mono ?_
        rintro e w4 ⟨rfl, p4, f4⟩
        have P4 := hide p4
        have Q4 : Hid (∀ k, Foot w.heap.size (grow S w3 w4) k → w.heap.size ≤ k) := by
          rintro k (h1 | h1 | h1)
          · exact unhide hQ k (.inl h1)
          · exact unhide hQ k (.inr h1)
          · have := (unhide B3).size
            omega
        have B4 := hide ((unhide B3).trans (f4.below (unhide B3).size (unhide hQ)))
        clear p4 f4 BK
        go_wp2_with fail
        refine (sowed_row w.heap.size (stepB kind oa os' b) _ (unhide P4).sb (unhide P4).ok).mono ?_
        rintro e w8 ⟨g8, rfl, hg8, hl8, i8, b8⟩
        have I8 := hide i8
        have P8 := hide ((unhide P4).below b8)
        have B8 := hide (below_step (unhide B4) b8)
        have hPX := (unhide P4).lt
        have SX := hide (unhide P4).rb.inb
        have hWX : w.heap.size ≤ w4.heap.size := (unhide B4).size
        clear i8 b8
        go_wp2_with fail
        refine (rowed_any D _ _ _ (unhide P8).rb).mono ?_
        rintro e w9 ⟨a9, c9, rfl, l9, hw9⟩
        have hw9 := hw9.symm
        subst hw9
        have I9 := hide l9.ints
        clear l9
        go_wp2_with fail
        refine (same_any _ _ _ (stepB kind oa os' b).now.owed _ _ _ (stepB kind oa os' b).now.owed _ (unhide I8).1 (unhide I9) (by omega)).mono ?_
        rintro e w10 ⟨rfl, n10, hw10⟩
        have hb10 : Below w8.heap.size w8 w10 := by rw [hw10]; exact below_drewN (Below.refl _ _) _
        have I10 := hide ((Fr.of_below (S := fun _ => False) hb10).intsF (unhide I8) (fun _ _ => id))
        have P10 := hide ((unhide P8).below hb10)
        have B10 := hide (below_step (unhide B8) hb10)
        clear hw10 hb10 I8 I9 B8
        rw [decide_eq_true (rfl : (stepB kind oa os' b).now.owed = (stepB kind oa os' b).now.owed)]
        go_wp2_with fail
        refine (spoil_any _ _ _ (stepB kind oa os' b).now.owed _ (fun _ => unhide I10) (unhide P10).ok.now.am (by omega)).mono ?_
        rintro e w11 ⟨rfl, f11⟩
        have P11 := hide ((unhide P10).keep f11 (by rintro ⟨_, p, hp, e⟩; simp only [Option.some.injEq] at hp; subst hp; simp only at e; omega) (by rintro k hk ⟨_, p, hp, e⟩; have := unhide SX k hk; simp only [Option.some.injEq] at hp; subst hp; simp only at e; omega))
        have B11 := hide ((unhide B10).trans (f11.below (unhide B10).size (by rintro k ⟨_, p, hp, e⟩; simp only [Option.some.injEq] at hp; subst hp; simp only at e; omega)))
        clear f11 I10 P10 B10 P8
        go_wp2
        go_roundw
        case rel => exact ⟨q + 1, _, _, by omega, by go_num, P11, Q4, B11⟩
        case measure => simp [intOf]; omega
    · have hq' : q = len := by omega
      subst hq'
      have HSB : Hid (∀ i, 0 ≤ (shL t vs m).getD i 0 ∧ (shL t vs m).getD i 0 ≤ 1000000000) := shL_bd t vs m
      have HSL := hide (shL_len t vs m)
      have SR := hide (share_row t vs m (by omega))
      have SW := hide (fun w1 (h1 : Ints w1 va vlen vs) => shares_walk t va vlen vcap vs m w1 ht h1 hvw hvl hm)
      have hPw := (unhide hP).lt
      have hwr := (unhide hB).size
      clear hlt hql hlen hvw hm
      go_wp2_with fail
      refine (sowed_row w.heap.size b _ (unhide hP).sb (unhide hP).ok).mono ?_
      rintro e w8 ⟨g8, rfl, hg8, hl8, i8, b8⟩
      have I8 := hide i8
      have P8 := hide ((unhide hP).below b8)
      have B8 := hide (below_step (unhide hB) b8)
      have SX := hide (unhide hP).rb.inb
      clear i8 b8
      go_wp2_with fail
      refine (spoil_any _ _ _ b.now.owed _ (fun _ => unhide I8) (unhide P8).ok.now.am (by omega)).mono ?_
      rintro e w9 ⟨rfl, f9⟩
      have P9 := hide ((unhide P8).keep f9 (by rintro ⟨_, p, hp, e⟩; simp only [Option.some.injEq] at hp; subst hp; simp only at e; omega) (by rintro k hk ⟨_, p, hp, e⟩; have := unhide SX k hk; simp only [Option.some.injEq] at hp; subst hp; simp only at e; omega))
      have B9 := hide ((unhide B8).trans (f9.below (unhide B8).size (by rintro k ⟨_, p, hp, e⟩; simp only [Option.some.injEq] at hp; subst hp; simp only at e; omega)))
      clear f9 I8 P8 B8 SX
      go_wp2_with fail
      refine (sowed_row w.heap.size b _ (unhide P9).sb (unhide P9).ok).mono ?_
      rintro e w10 ⟨g10, rfl, _, _, i10, b10⟩
      have I10 := hide i10.1
      have P10 := hide ((unhide P9).below b10)
      have B10 := hide (below_step (unhide B9) b10)
      clear i10 b10 P9 B9
      go_wp2_with fail
      refine (rowed_any D _ _ _ (unhide P10).rb).mono ?_
      rintro e w11 ⟨a11, c11, rfl, l11, hw11⟩
      have hw11 := hw11.symm
      subst hw11
      have I11 := hide l11.ints
      clear l11
      go_wp2_with fail
      refine (same_any _ _ _ b.now.owed _ _ _ b.now.owed _ (unhide I10) (unhide I11) (by omega)).mono ?_
      rintro e w12 ⟨rfl, n12, hw12⟩
      have hb12 : Below w10.heap.size w10 w12 := by rw [hw12]; exact below_drewN (Below.refl _ _) _
      have B12 := hide (below_step (unhide B10) hb12)
      clear hw12 hb12 I10 I11 B10 P10
      rw [decide_eq_true (rfl : b.now.owed = b.now.owed)]
      go_wp2_with fail
      refine (copied_any va vlen vcap vs _ ((unhide HV).below (unhide B12)) hvl).mono ?_
      rintro e w13 ⟨rfl, i13, b13, _⟩
      have I13 := hide i13
      have B13 := hide (below_step (unhide B12) b13)
      clear i13 b13 B12
      go_wp2_with fail
      refine (unhide SR _ _ _ w13 (unhide I13) hvl).mono ?_
      rintro e w14 ⟨a14, n14, c14, rfl, i14, ha14, b14⟩
      have I14 := hide i14
      have A14 := hide ha14
      have B14 := hide (below_step (unhide B13) b14)
      have hn14 : n14 ≤ 8 := by rw [← i14.1.1]; exact unhide HSL
      have hz13 := (unhide B13).size
      clear i14 ha14 b14 I13 SR
      generalize shL t vs m = sl at *
      generalize shR t vs m = sr at *
      generalize shE t vs m = se at *
      generalize shP t vs m = sp at *
      go_wp2_with fail
      refine (spoil_any _ _ _ sl _ (fun _ => unhide I14) (unhide HSB) hn14).mono ?_
      rintro e w15 ⟨rfl, f15⟩
      have B15 := hide ((unhide B14).trans (f15.below (unhide B14).size (by rintro k ⟨_, p, hp, e⟩; have := unhide A14 p hp; omega)))
      clear f15 I14 A14 B14
      go_wp2_with fail
      refine (unhide SW _ ((unhide HV).below (unhide B15))).mono ?_
      rintro e w16 ⟨rfl, b16⟩
      have B16 := hide (below_step (unhide B15) b16)
      clear b16
      go_wp2
      go_ret
      exact ⟨rfl, unhide B16⟩
end Go.Proofs.Ytmdjdpofpkgffab
