/- Shown: the script with both books asked at its end. -/
import Derived.Test.YtmdjdpofpkgffabUpTo
import Derived.Deep.Cut
namespace Go.Proofs.Ytmdjdpofpkgffab
open Go.ChangeShapes Go.WideShapes Go.ChangeAt Go.RowKit
open Split
set_option linter.unusedVariables false
set_option linter.unusedSimpArgs false

theorem infoOp : (Try.prog.info? 46).map (fun i => (i.zero, i.size, i.bytes)) = some (some (.agg #[.int .i64 0, .int .i64 0, .int .i64 0, .string ⟨#[]⟩, .string ⟨#[]⟩, .slice none 0 0]), 6, 80) := by kernel_rfl

def opL (o : OpM) : List Value := [.int .i64 o.kind, .int .i64 o.a, .int .i64 o.b, .string o.s, .string o.t, .slice o.va o.vn o.vc]
def opsL (os : List OpM) : List Value := os.flatMap opL
theorem opsL_len (os : List OpM) : (opsL os).length = os.length * 6 := by
  induction os with
  | nil => rfl
  | cons o os ih =>
    show (opL o ++ opsL os).length = _
    rw [List.length_append, ih, List.length_cons]
    simp [opL]; omega
theorem opsL_snoc (os : List OpM) (o : OpM) : opsL (os ++ [o]) = opsL os ++ opL o := by simp [opsL]
theorem opsL_at : ∀ (os : List OpM) (i j : Nat) (o : OpM), os[i]? = some o → j < 6 → (opsL os)[i * 6 + j]? = (opL o)[j]?
  | [], i, j, o, h, _ => by simp at h
  | x :: xs, 0, j, o, h, hj => by
    obtain rfl : x = o := by simpa using h
    show (opL x ++ opsL xs)[0 * 6 + j]? = _
    rw [Nat.zero_mul, Nat.zero_add, List.getElem?_append_left (by simp [opL]; omega)]
  | x :: xs, i + 1, j, o, h, hj => by
    show (opL x ++ opsL xs)[(i + 1) * 6 + j]? = _
    rw [List.getElem?_append_right (by simp [opL]; omega)]
    have e : (i + 1) * 6 + j - (opL x).length = i * 6 + j := by simp [opL]; omega
    rw [e]
    exact opsL_at xs i j o (by simpa using h) hj

theorem ops_of_own {w : World} {base : Nat} {v : Value} {n : Nat} {os : List OpM} (h : w.ownsRow base 46 6 v n (opsL os)) (hn : os.length = n) (ht : ∀ o ∈ os, o.s.size ≤ 1000000000000000) (hp : 0 < n) : ∃ g cap, v = .slice (some ⟨g, 0, none⟩) n cap ∧ Ops w (some ⟨g, 0, none⟩) n os := by
  rcases h.2 with ⟨_, h0⟩ | ⟨g, cap, cur, rfl, hb, hg, hc1, hc2, hsz, htk⟩
  · omega
  refine ⟨g, cap, rfl, hn, ht, fun _ => ⟨g, 0, rfl, fun i o ho => ?_⟩⟩
  have hi : i < n := by rw [← hn]; exact (List.getElem?_eq_some_iff.1 ho).1
  have hc : ∀ j, j < 6 → w.cell? ⟨g, 0 + i * 6 + j, none⟩ = (opL o)[j]? := by
    intro j hj
    rw [cell_of_row w g _ _ _ _ hg, ← opsL_at os i j o ho hj, ← htk, List.getElem?_take, if_pos (by omega), Nat.zero_add, Array.getElem?_toList]
  exact ⟨hc 0 (by omega), hc 1 (by omega), hc 2 (by omega), hc 3 (by omega), hc 4 (by omega), hc 5 (by omega)⟩

theorem news_box (w : World) (vs : List Value) (T : TypeId) : ∀ j u, vs[j]? = some u → (w.alloc (.cells vs.toArray T)).cell? (Addr.add ⟨w.heap.size, 0, none⟩ j) = some u := by
  intro j u hj
  rw [Addr.add_lit, cell_of_row _ w.heap.size _ _ _ _ (heap_alloc_new w _), Nat.zero_add]
  simpa using hj
theorem one_op (k a b : Int) (s t : ByteArray) (x : Option Addr) (n c : Nat) : ∀ u ∈ [Value.int .i64 k, .int .i64 a, .int .i64 b, .string s, .string t, .slice x n c], u.oneCell' = true := by
  intro u hu
  simp at hu
  rcases hu with rfl | rfl | rfl | rfl | rfl | rfl <;> rfl

set_option maxHeartbeats 2000000 in
theorem shown_any (a : Option Addr) (len cap : Nat) (os : List OpM) (w : World) (h : Ops w a len os) (hlen : len * 80 ≤ 140737488351232) :
    Calls Try.prog 23 #[.slice a len cap] w fun e w' => ∃ g c, e = .returned (.slice (some ⟨g, 0, none⟩) (len + 2) c) ∧ Ops w' (some ⟨g, 0, none⟩) (len + 2) (os ++ [⟨2, 0, 0, ⟨#[]⟩, ⟨#[]⟩, none, 0, 0⟩] ++ [⟨2, 0, 1, ⟨#[]⟩, ⟨#[]⟩, none, 0, 0⟩]) ∧ Below w.heap.size w w' := by
  obtain ⟨i0, hi, hz0, hz1, hz2⟩ := info_parts infoOp
  have HO := hide h
  clear h
  go_enter Try.func23, Try.ntmps23
  go_wp2_with fail
  go_loopw [3, 4] (fun l i wr => ∃ (k : Nat) (la : Option Addr) (lc : Nat), k ≤ len ∧ i = .int .i64 k ∧ l = .slice la k lc ∧ Hid (wr.ownsRow w.heap.size 46 6 (.slice la k lc) k (opsL (os.take k))) ∧ Hid (Below w.heap.size w wr)) (fun l i _ => len - (intOf i).toNat)
  case atStart => exact ⟨0, none, 0, Nat.zero_le _, rfl, rfl, by rw [List.take_zero]; exact World.ownsRow_nil w _ _ _, Below.refl _ _⟩
  case round =>
    obtain ⟨k, la, lc, hk, rfl, rfl, hown, hbel⟩ := hrel
    by_cases hlt : k < len
    · obtain ⟨o, ho⟩ : ∃ o, os[k]? = some o := ⟨_, List.getElem?_eq_getElem (by rw [(unhide HO).cnt]; exact hlt)⟩
      obtain ⟨g, off, rfl, hmem⟩ := (unhide HO).mem (by omega)
      have hat := hmem k o ho
      obtain ⟨c0, c1, c2, c3, c4, c5⟩ := hat.below (unhide hbel) hat.lt
      have hsn : opsL (os.take (k + 1)) = opsL (os.take k) ++ opL o := by rw [List.take_add_one, ho]; exact opsL_snoc _ _
      obtain ⟨kind, oa, ob, os', ot, va, vn, vc⟩ := o
      simp only at c0 c1 c2 c3 c4 c5
      have HSN := hide hsn
      clear hmem hat ho hsn
      go_wp2_with (at_builtin; refine wpList_append_own _ rfl (.tmp 11) (.tmp 16) 39 rfl w.heap.size 46 i0 _ 6 80 Try.underlying39 hi hz0 hz1 hz2 rfl (by decide) (.slice la k lc) k (opsL (os.take k)) rfl (by exact World.ownsRow.alloc (unhide hown) _) ⟨wr.heap.size, 0, none⟩ 1 1 [.int .i64 kind, .int .i64 oa, .int .i64 ob, .string os', .string ot, .slice va vn vc] rfl rfl (by exact news_box wr _ _) (one_op _ _ _ _ _ _ _ _) (by unfold maxLen; omega) (by omega) (by have := (unhide hbel).size; simp; omega) ?_; intro v' w3 hown3 hgrow3 _)
      go_roundw
      case rel =>
        obtain ⟨la', lc', rfl, _⟩ := own_slice hown3
        refine ⟨k + 1, la', lc', by omega, by go_num, rfl, ?_, ?_⟩
        · rw [unhide HSN]
          exact hown3
        · exact ((unhide hbel).alloc (unhide hbel).size _).grown hgrow3 (by have := (unhide hbel).size; simp; omega) (fun j hj => ((unhide hown).lt j hj).1)
      case measure => simp [intOf]; omega
    · have hk' : k = len := by omega
      subst hk'
      have hown' := unhide hown
      rw [List.take_of_length_le (by rw [(unhide HO).cnt]; exact Nat.le_refl _)] at hown'
      have HOWN := hide hown'
      clear hown hown'
      go_upto_region 7 with (at_builtin; refine wpList_append_own _ rfl (.tmp 18) (.tmp 20) 39 rfl w.heap.size 46 i0 _ 6 80 Try.underlying39 hi hz0 hz1 hz2 rfl (by decide) (.slice la k lc) k (opsL os) rfl (by exact World.ownsRow.alloc (unhide HOWN) _) ⟨wr.heap.size, 0, none⟩ 1 1 [.int .i64 2, .int .i64 0, .int .i64 0, .string ⟨#[]⟩, .string ⟨#[]⟩, .slice none 0 0] rfl rfl (by exact news_box wr _ _) (one_op _ _ _ _ _ _ _ _) (by unfold maxLen; omega) (by omega) (by have := (unhide hbel).size; simp; omega) ?_; intro v3 w3 hown3 hgrow3 _)
      obtain ⟨la3, lc3, rfl, _⟩ := own_slice hown3
      have hb3 : Below w.heap.size w w3 := ((unhide hbel).alloc (unhide hbel).size _).grown hgrow3 (by have := (unhide hbel).size; simp; omega) (fun j hj => ((unhide HOWN).lt j hj).1)
      have HOWN3 : Hid (w3.ownsRow w.heap.size 46 6 (.slice la3 (k + 1) lc3) (k + 1) (opsL (os ++ [⟨2, 0, 0, ⟨#[]⟩, ⟨#[]⟩, none, 0, 0⟩]))) := by
        rw [opsL_snoc]
        exact hown3
      have HB3 := hide hb3
      clear hown3 hgrow3 hb3
      go_wp2_with (at_builtin; refine wpList_append_own _ rfl (.tmp 22) (.tmp 24) 39 rfl w.heap.size 46 i0 _ 6 80 Try.underlying39 hi hz0 hz1 hz2 rfl (by decide) (.slice la3 (k + 1) lc3) (k + 1) (opsL (os ++ [⟨2, 0, 0, ⟨#[]⟩, ⟨#[]⟩, none, 0, 0⟩])) rfl (by exact World.ownsRow.alloc (unhide HOWN3) _) ⟨w3.heap.size, 0, none⟩ 1 1 [.int .i64 2, .int .i64 0, .int .i64 1, .string ⟨#[]⟩, .string ⟨#[]⟩, .slice none 0 0] rfl rfl (by exact news_box w3 _ _) (one_op _ _ _ _ _ _ _ _) (by unfold maxLen; omega) (by omega) (by have := (unhide HB3).size; simp; omega) ?_; intro v4 w4 hown4 hgrow4 _)
      go_ret
      have hb4 : Below w.heap.size w w4 := ((unhide HB3).alloc (unhide HB3).size _).grown hgrow4 (by have := (unhide HB3).size; simp; omega) (fun j hj => ((unhide HOWN3).lt j hj).1)
      have hown5 : w4.ownsRow w.heap.size 46 6 v4 (k + 2) (opsL (os ++ [⟨2, 0, 0, ⟨#[]⟩, ⟨#[]⟩, none, 0, 0⟩] ++ [⟨2, 0, 1, ⟨#[]⟩, ⟨#[]⟩, none, 0, 0⟩])) := by
        rw [opsL_snoc]
        exact hown4
      obtain ⟨g, c, rfl, hops⟩ := ops_of_own hown5 (by simp [(unhide HO).cnt]) (by
        intro o ho
        rcases List.mem_append.1 ho with ho | ho
        · rcases List.mem_append.1 ho with ho | ho
          · exact (unhide HO).txt o ho
          · simp at ho; subst ho; exact Nat.zero_le _
        · simp at ho; subst ho; exact Nat.zero_le _) (by omega)
      exact ⟨g, c, rfl, hops, hb4⟩
end Go.Proofs.Ytmdjdpofpkgffab
