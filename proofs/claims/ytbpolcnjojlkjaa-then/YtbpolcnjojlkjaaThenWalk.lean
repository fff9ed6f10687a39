/- Then: the walk. -/
import Derived.Test.YtbpolcnjojlkjaaLeftW
namespace Go.Proofs.Ytbpolcnjojlkjaa
open Go.ChangeShapes Go.WideShapes Go.ChangeAt Go.RowKit
open Split (Pu Keeps)
set_option linter.unusedVariables false
set_option linter.unusedSimpArgs false

theorem less_owed {M : Int} {zs : List Int} {q : Pu} (hz : zs.length = 8) (h : Keeps M zs q) : lessZ zs q.paid 8 = q.owed := by
  refine list_ext8 (lessZ_len _ _ _) h.lo fun i hi => ?_
  rw [lessZ_get _ _ _ _ hi, if_pos hi]
  have := h.tot i
  omega

set_option maxRecDepth 100000 in
set_option maxHeartbeats 8000000 in
theorem then_walk (s t : ByteArray) (a : Option Addr) (len cap : Nat) (zs : List Int) (m : Int) (w : World) (hs : s.size ≤ 140737488351232) (ht : t.size ≤ 140737488351232) (h : Ints w a len zs) (hwf : ∀ n ∈ zs, (Lit.int .i64 n).wf = true) (hr : len * 8 ≤ 140737488351232) (hm : (Lit.int .i64 m).wf = true) :
    Calls Try.prog 9 #[.string s, .string t, .slice a len cap, .int .i64 m] w fun e w' => e = .returned (.bool true) ∧ Below w.heap.size w w' := by
  have HI := hide h
  clear h hwf hm
  obtain ⟨T, x1⟩ : ∃ X, s ++ t = X := ⟨_, rfl⟩
  have y1 : T.size = s.size + t.size := by rw [← x1, ByteArray.size_append]
  have hTz : T.size ≤ 1000000000000000 := by omega
  have hsz : s.size ≤ 1000000000000000 := by omega
  have htz : t.size ≤ 1000000000000000 := by omega
  obtain ⟨fs, hfs⟩ : ∃ b, (checkE s == 0 && givenE zs m == 0) = b := ⟨_, rfl⟩
  obtain ⟨fu, hfu⟩ : ∃ b, (checkE t == 0 && givenE zs m == 0) = b := ⟨_, rfl⟩
  obtain ⟨fT, hfT⟩ : ∃ b, (checkE T == 0 && givenE zs m == 0) = b := ⟨_, rfl⟩
  have HFS := hide hfs
  have HFU := hide hfu
  have HFT := hide hfT
  clear hfs hfu hfT
  by_cases hall : fs = true ∧ fu = true ∧ fT = true
  · obtain ⟨rfl, rfl, rfl⟩ := hall
    have hcs : checkE s = 0 := by have := unhide HFS; simp at this; exact this.1
    have hcu : checkE t = 0 := by have := unhide HFU; simp at this; exact this.1
    have hcT : checkE T = 0 := by have := unhide HFT; simp at this; exact this.1
    have hg : givenE zs m = 0 := by have := unhide HFS; simp at this; exact this.2
    obtain ⟨hz8, hzb, hm0, hm9⟩ := given_ok hg
    have h8 : len = 8 := by rw [← (unhide HI).1, hz8]
    subst h8
    have hpays := then_pays (s := s) (t := t) (zs := zs) (m := m) (by rw [x1]; exact hcT) hcs hcu hg
    rw [x1] at hpays
    have hgl := given_left hcs hg
    obtain ⟨k1, _⟩ := shr_keeps hcs hg
    obtain ⟨k3, _⟩ := shr_keeps hcT hg
    obtain ⟨k2, _⟩ := shr_keeps hcu hgl
    obtain ⟨e1, l1, r1, n1⟩ := sh_fit hcs hg
    obtain ⟨e3, l3, r3, n3⟩ := sh_fit hcT hg
    obtain ⟨e2, l2, r2, n2⟩ := sh_fit hcu hgl
    have SS := share_any s zs m hsz
    have ST := share_any T zs m hTz
    have SU := share_any t (shrM s zs m).owed (shrM s zs m).hand htz
    rw [l1, r1, e1] at SS
    rw [l3, r3, e3] at ST
    rw [l2, r2, e2] at SU
    generalize shP s zs m = p1 at SS
    generalize shP T zs m = p3 at ST
    generalize shP t (shrM s zs m).owed (shrM s zs m).hand = p2 at SU
    have hle := less_owed hz8 k1
    generalize shrM T zs m = q3 at *
    generalize shrM t (shrM s zs m).owed (shrM s zs m).hand = q2 at *
    generalize shrM s zs m = q1 at *
    have HSS := hide SS
    have HST := hide ST
    have HSU := hide SU
    have K1 := hide k1
    have K2 := hide k2
    have K3 := hide k3
    have HP := hide hpays
    have HLE := hide hle
    have N1 := hide n1
    have N2 := hide n2
    have N3 := hide n3
    have HZB := hide hzb
    clear SS ST SU k1 k2 k3 hpays hle n1 n2 n3 hcs hcu hcT hg hgl e1 l1 r1 e2 l2 r2 e3 l3 r3 hz8 hzb
    go_enter Try.func9, Try.ntmps9
    go_wp2_with fail
    refine (fit_any s a 8 cap zs m _ hsz (unhide HI) hr).mono ?_
    rintro e w1 ⟨rfl, n1, hw1⟩
    rw [unhide HFS]
    have B1 : Hid (Below w.heap.size w w1) := by
      show Below w.heap.size w w1
      rw [hw1]; exact below_drewN (Below.refl _ _) _
    clear hw1
    go_wp2_with fail
    refine (fit_any t a 8 cap zs m _ htz ((unhide HI).below (unhide B1)) hr).mono ?_
    rintro e w2 ⟨rfl, n2, hw2⟩
    rw [unhide HFU]
    have B2 : Hid (Below w.heap.size w w2) := by
      show Below w.heap.size w w2
      rw [hw2]; exact below_drewN (unhide B1) _
    clear hw2 B1
    go_wp2_with fail
    refine (fit_any T a 8 cap zs m _ hTz ((unhide HI).below (unhide B2)) hr).mono ?_
    rintro e w3 ⟨rfl, n3, hw3⟩
    rw [unhide HFT]
    have B3 : Hid (Below w.heap.size w w3) := by
      show Below w.heap.size w w3
      rw [hw3]; exact below_drewN (unhide B2) _
    clear hw3 B2
    go_wp2_with fail
    refine (lshare_of s zs m _ _ _ _ (unhide HSS) _ _ _ _ ((unhide HI).below (unhide B3)) hr).mono ?_
    rintro e w4 ⟨a4, n4, c4, rfl, hi4, hb4⟩
    have hn4 : n4 = 8 := by rw [← hi4.1]; exact unhide N1
    subst hn4
    have I4 := hide hi4
    have B4 := hide (below_step (unhide B3) hb4)
    clear hi4 hb4 B3 HSS
    go_wp2_with fail
    obtain ⟨W4, hW4⟩ : ∃ W, w4.alloc (.cells #[.slice a4 8 c4, .int .i64 q1.hand, .bool true] 38) = W := ⟨_, rfl⟩
    have hr4 : W4.heap[w4.heap.size]? = some (.cells #[.slice a4 8 c4, .int .i64 q1.hand, .bool true] 38 (0, 0)) := by rw [← hW4]; exact heap_alloc_new _ _
    have hb4 : Below w4.heap.size w4 W4 := by rw [← hW4]; exact (Below.refl _ _).alloc (Nat.le_refl _) _
    rw [hW4]
    have J4 := hide ((unhide I4).below hb4)
    have C4 := hide (below_step (unhide B4) hb4)
    clear hW4 I4 B4 hb4
    obtain ⟨g4, hg4⟩ : ∃ g, w4.heap.size = g := ⟨_, rfl⟩
    rw [hg4] at hr4 ⊢
    clear hg4
    have R4 := hide hr4
    have p0 := cell_of_row W4 g4 0 _ _ _ hr4
    have p1 := cell_of_row W4 g4 1 _ _ _ hr4
    have p2 := cell_of_row W4 g4 2 _ _ _ hr4
    have hg4 : g4 < W4.heap.size := cell_lt hr4
    simp at p0 p1 p2
    clear hr4
    go_wp2_with fail
    refine (left_any a cap zs _ ((unhide HI).below (unhide C4)) a4 c4 q1.paid q1.hand (unhide J4) (unhide K1).pa (fun i => by have h1 := (unhide K1).tot i; have h2 := (unhide K1).ow i; omega) (fun i => (unhide HZB i).2)).mono ?_
    rintro e w5 ⟨g5, rfl, hg5, hi5, hb5⟩
    rw [unhide HLE] at hi5
    have I5 := hide hi5
    have J5 := hide ((unhide J4).below hb5)
    have C5 := hide (below_step (unhide C4) hb5)
    have R5 := hide ((hb5.block g4 (cell_lt (unhide R4))).trans (unhide R4))
    clear hi5 hb5 hg5 J4 C4 R4 p0 p1 p2 hg4
    have p0 := cell_of_row w5 g4 0 _ _ _ (unhide R5)
    have p1 := cell_of_row w5 g4 1 _ _ _ (unhide R5)
    have p2 := cell_of_row w5 g4 2 _ _ _ (unhide R5)
    simp at p0 p1 p2
    go_wp2_with fail
    refine (lshare_of t q1.owed q1.hand _ _ _ _ (unhide HSU) _ _ _ _ (unhide I5) (by omega)).mono ?_
    rintro e w6 ⟨a6, n6, c6, rfl, hi6, hb6⟩
    have hn6 : n6 = 8 := by rw [← hi6.1]; exact unhide N2
    subst hn6
    have I6 := hide hi6
    have J6 := hide ((unhide J5).below hb6)
    have C6 := hide (below_step (unhide C5) hb6)
    have R6 := hide ((hb6.block g4 (cell_lt (unhide R5))).trans (unhide R5))
    clear hi6 hb6 J5 C5 R5 p0 p1 p2 I5 HSU
    go_wp2_with fail
    obtain ⟨W6, hW6⟩ : ∃ W, w6.alloc (.cells #[.slice a6 8 c6, .int .i64 q2.hand, .bool true] 38) = W := ⟨_, rfl⟩
    have hr6 : W6.heap[w6.heap.size]? = some (.cells #[.slice a6 8 c6, .int .i64 q2.hand, .bool true] 38 (0, 0)) := by rw [← hW6]; exact heap_alloc_new _ _
    have hb6 : Below w6.heap.size w6 W6 := by rw [← hW6]; exact (Below.refl _ _).alloc (Nat.le_refl _) _
    rw [hW6]
    have I7 := hide ((unhide I6).below hb6)
    have J7 := hide ((unhide J6).below hb6)
    have C7 := hide (below_step (unhide C6) hb6)
    have R7 := hide ((hb6.block g4 (cell_lt (unhide R6))).trans (unhide R6))
    clear hW6 I6 J6 C6 R6 hb6
    obtain ⟨g6, hg6⟩ : ∃ g, w6.heap.size = g := ⟨_, rfl⟩
    rw [hg6] at hr6 ⊢
    clear hg6
    have Q7 := hide hr6
    clear hr6
    refine (lshare_of T zs m _ _ _ _ (unhide HST) _ _ _ _ ((unhide HI).below (unhide C7)) hr).mono ?_
    rintro e w8 ⟨a8, n8, c8, rfl, hi8, hb8⟩
    have hn8 : n8 = 8 := by rw [← hi8.1]; exact unhide N3
    subst hn8
    have L8 := hide hi8
    have I8 := hide ((unhide I7).below hb8)
    have J8 := hide ((unhide J7).below hb8)
    have C8 := hide (below_step (unhide C7) hb8)
    have R8 := hide ((hb8.block g4 (cell_lt (unhide R7))).trans (unhide R7))
    have Q8 := hide ((hb8.block g6 (cell_lt (unhide Q7))).trans (unhide Q7))
    clear hi8 hb8 I7 J7 C7 R7 Q7 HST
    have q2c := cell_of_row w8 g6 2 _ _ _ (unhide Q8)
    simp at q2c
    have hg6 : g6 < w8.heap.size := cell_lt (unhide Q8)
    go_wp2_with fail
    clear q2c hg6
    obtain ⟨W8, hW8⟩ : ∃ W, w8.alloc (.cells #[.slice a8 8 c8, .int .i64 q3.hand, .bool true] 38) = W := ⟨_, rfl⟩
    have hr8 : W8.heap[w8.heap.size]? = some (.cells #[.slice a8 8 c8, .int .i64 q3.hand, .bool true] 38 (0, 0)) := by rw [← hW8]; exact heap_alloc_new _ _
    have hb8 : Below w8.heap.size w8 W8 := by rw [← hW8]; exact (Below.refl _ _).alloc (Nat.le_refl _) _
    rw [hW8]
    have L9 := hide ((unhide L8).below hb8)
    have I9 := hide ((unhide I8).below hb8)
    have J9 := hide ((unhide J8).below hb8)
    have C9 := hide (below_step (unhide C8) hb8)
    have R9 := hide ((hb8.block g4 (cell_lt (unhide R8))).trans (unhide R8))
    have Q9 := hide ((hb8.block g6 (cell_lt (unhide Q8))).trans (unhide Q8))
    clear hW8 L8 I8 J8 C8 R8 Q8 hb8
    obtain ⟨g8, hg8⟩ : ∃ g, w8.heap.size = g := ⟨_, rfl⟩
    rw [hg8] at hr8 ⊢
    clear hg8
    have T9 := hide hr8
    clear hr8
    obtain ⟨b4, o4, h4e, hc4⟩ := (unhide J9).2 (by omega)
    obtain ⟨b6, o6, h6e, hc6⟩ := (unhide I9).2 (by omega)
    obtain ⟨b8, o8, h8e, hc8⟩ := (unhide L9).2 (by omega)
    subst h4e
    subst h6e
    subst h8e
    have HC4 := hide hc4
    have HC6 := hide hc6
    have HC8 := hide hc8
    clear hc4 hc6 hc8 I9 J9 L9
    have hb4 : b4 < W8.heap.size := cell_blk (unhide HC4 0 (by omega))
    have hb6 : b6 < W8.heap.size := cell_blk (unhide HC6 0 (by omega))
    have hb8 : b8 < W8.heap.size := cell_blk (unhide HC8 0 (by omega))
    go_loopw [16] (fun ii wr => ∃ i : Nat, i ≤ 8 ∧ ii = .int .i64 i ∧ Hid (∃ n, wr = W8.drewN n)) (fun ii _ => 8 - (intOf ii).toNat)
    case atStart => exact ⟨0, by omega, rfl, ⟨0, rfl⟩⟩
    case round =>
      obtain ⟨i, hi, rfl, hw⟩ := hrel
      have hr4 : wr.heap[g4]? = some (.cells #[.slice (some ⟨b4, o4, none⟩) 8 c4, .int .i64 q1.hand, .bool true] 38 (0, 0)) := by
        obtain ⟨n, hn⟩ := unhide hw
        rw [hn]; exact unhide R9
      have hr6 : wr.heap[g6]? = some (.cells #[.slice (some ⟨b6, o6, none⟩) 8 c6, .int .i64 q2.hand, .bool true] 38 (0, 0)) := by
        obtain ⟨n, hn⟩ := unhide hw
        rw [hn]; exact unhide Q9
      have hr8 : wr.heap[g8]? = some (.cells #[.slice (some ⟨b8, o8, none⟩) 8 c8, .int .i64 q3.hand, .bool true] 38 (0, 0)) := by
        obtain ⟨n, hn⟩ := unhide hw
        rw [hn]; exact unhide T9
      have p4 := cell_of_row wr g4 0 _ _ _ hr4
      have p6 := cell_of_row wr g6 0 _ _ _ hr6
      have p8 := cell_of_row wr g8 0 _ _ _ hr8
      have r6 := cell_of_row wr g6 1 _ _ _ hr6
      have r8 := cell_of_row wr g8 1 _ _ _ hr8
      simp at p4 p6 p8 r6 r8
      clear hr4 hr6 hr8
      by_cases hlt : i < 8
      · have c4' : wr.cell? ⟨b4, o4 + i, none⟩ = some (.int .i64 (q1.paid.getD i 0)) := by
          obtain ⟨n, hn⟩ := unhide hw
          rw [hn]; exact unhide HC4 i hlt
        have c6' : wr.cell? ⟨b6, o6 + i, none⟩ = some (.int .i64 (q2.paid.getD i 0)) := by
          obtain ⟨n, hn⟩ := unhide hw
          rw [hn]; exact unhide HC6 i hlt
        have c8' : wr.cell? ⟨b8, o8 + i, none⟩ = some (.int .i64 (q3.paid.getD i 0)) := by
          obtain ⟨n, hn⟩ := unhide hw
          rw [hn]; exact unhide HC8 i hlt
        have hsum := (unhide HP).2 i hlt
        have h1a := (unhide K1).pa i
        have h2a := (unhide K2).pa i
        have h3a := (unhide K3).ow i
        have h3b := (unhide K3).tot i
        have h3c := (unhide K3).o9 i
        obtain ⟨x, hx⟩ : ∃ x, q1.paid.getD i 0 = x := ⟨_, rfl⟩
        obtain ⟨y, hy⟩ : ∃ y, q2.paid.getD i 0 = y := ⟨_, rfl⟩
        obtain ⟨z, hz⟩ : ∃ z, q3.paid.getD i 0 = z := ⟨_, rfl⟩
        rw [hx] at c4' hsum h1a
        rw [hy] at c6' hsum h2a
        rw [hz] at c8' hsum h3b
        have hz9 : x + y ≤ 1000000000 := by omega
        have hwr : IntKind.i64.wrap (x + y) = x + y := wrap_big (by omega) (by omega)
        subst hsum
        have hne : (x + y != x + y) = false := by simp
        clear hx hy hz h3a h3b h3c
        go_wp2_with fail
        go_quiet (fail)
        go_wp2_with fail
        go_roundw
        case rel => exact ⟨i + 1, by omega, by go_num, drewN_more (unhide hw)⟩
        case measure => simp [intOf]; omega
      · have hi8 : i = 8 := by omega
        subst hi8
        have hq := (unhide HP).1
        obtain ⟨x, hx⟩ : ∃ x, q3.hand = x := ⟨_, rfl⟩
        rw [← hq, hx] at r6
        rw [hx] at r8
        have hxx : (x == x) = true := by simp
        clear hx hq
        go_wp2_with fail
        go_ret
        have hb : Below w.heap.size w wr := by
          obtain ⟨n, hn⟩ := unhide hw
          rw [hn]; exact below_drewN (unhide C9) n
        first | exact ⟨rfl, hb⟩ | exact ⟨rfl, below_drewN hb _⟩
  · go_enter Try.func9, Try.ntmps9
    go_wp2_with fail
    refine (fit_any s a len cap zs m _ hsz (unhide HI) hr).mono ?_
    rintro e w1 ⟨rfl, n1, hw1⟩
    rw [unhide HFS]
    have B1 : Hid (Below w.heap.size w w1) := by
      show Below w.heap.size w w1
      rw [hw1]; exact below_drewN (Below.refl _ _) _
    clear hw1
    go_wp2_with fail
    refine (fit_any t a len cap zs m _ htz ((unhide HI).below (unhide B1)) hr).mono ?_
    rintro e w2 ⟨rfl, n2, hw2⟩
    rw [unhide HFU]
    have B2 : Hid (Below w.heap.size w w2) := by
      show Below w.heap.size w w2
      rw [hw2]; exact below_drewN (unhide B1) _
    clear hw2 B1
    go_wp2_with fail
    refine (fit_any T a len cap zs m _ hTz ((unhide HI).below (unhide B2)) hr).mono ?_
    rintro e w3 ⟨rfl, n3, hw3⟩
    rw [unhide HFT]
    have B3 : Hid (Below w.heap.size w w3) := by
      show Below w.heap.size w w3
      rw [hw3]; exact below_drewN (unhide B2) _
    clear hw3 B2
    cases fs
    · go_wp2_with fail
      go_ret
      exact ⟨rfl, unhide B3⟩
    cases fu
    · go_wp2_with fail
      go_ret
      exact ⟨rfl, unhide B3⟩
    cases fT
    · go_wp2_with fail
      go_ret
      exact ⟨rfl, unhide B3⟩
    exact absurd ⟨rfl, rfl, rfl⟩ hall
end Go.Proofs.Ytbpolcnjojlkjaa
