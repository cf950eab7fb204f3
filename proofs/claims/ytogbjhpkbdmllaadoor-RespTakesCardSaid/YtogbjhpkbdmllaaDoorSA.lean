/-
  The walk of the reference's reader of a reply. A premise: the text is shorter than 4294967281 bytes.
-/
import Derived.Test.YtogbjhpkbdmllaaDoorRZ
namespace Go.Proofs.YtogbjhpkbdmllaaDoor
open Go.RowKit Rp Dec

def two4k (kd : Int) (w : World) : World := (w.alloc (.cells #[.int .i64 0, .int .i64 0, .string ⟨#[]⟩, .slice none 0 0] 24)).alloc (.cells #[.int .i64 kd, .int .i64 0, .string ⟨#[]⟩, .slice none 0 0] 24)
theorem two4k_facts (kd : Int) (w : World) : (two4k kd w).heap.size = w.heap.size + 2 ∧ (two4k kd w).heap[w.heap.size]? = some (.cells #[.int .i64 0, .int .i64 0, .string ⟨#[]⟩, .slice none 0 0] 24 (0, 0)) ∧
    (two4k kd w).heap[w.heap.size + 1]? = some (.cells #[.int .i64 kd, .int .i64 0, .string ⟨#[]⟩, .slice none 0 0] 24 (0, 0)) ∧ Below w.heap.size w (two4k kd w) := by
  refine ⟨by simp [two4k], ?_, ?_, ((Below.refl _ _).alloc (Nat.le_refl _) _).alloc (by simp) _⟩
  · unfold two4k
    rw [Below.heap_alloc _ _ _ (by simp)]
    exact heap_alloc_new w _
  · have := heap_alloc_new (w.alloc (.cells #[.int .i64 0, .int .i64 0, .string ⟨#[]⟩, .slice none 0 0] 24)) (.cells #[.int .i64 kd, .int .i64 0, .string ⟨#[]⟩, .slice none 0 0] 24)
    simpa [two4k] using this
theorem laid_one {W : World} {g j : Nat} {c0 c1 c2 c3 u v0 v1 v2 v3 : Value} (h : W.heap[g]? = some (.cells #[c0, c1, c2, c3] 24 (0, 0))) :
    (((((W.setCell ⟨g + 1, j, none⟩ u).setCell ⟨g, 0, none⟩ v0).setCell ⟨g, 1, none⟩ v1).setCell ⟨g, 2, none⟩ v2).setCell ⟨g, 3, none⟩ v3).heap[g]? = some (.cells #[v0, v1, v2, v3] 24 (0, 0)) := by
  refine laid4 (c0 := c0) (c1 := c1) (c2 := c2) (c3 := c3) ?_
  rw [Below.heap_setCell _ _ _ _ (show g ≠ g + 1 by omega)]
  exact h
theorem one_below {w W : World} (hb : Below w.heap.size w W) {j : Nat} {u v0 v1 v2 v3 : Value} : Below w.heap.size w (((((W.setCell ⟨w.heap.size + 1, j, none⟩ u).setCell ⟨w.heap.size, 0, none⟩ v0).setCell ⟨w.heap.size, 1, none⟩ v1).setCell ⟨w.heap.size, 2, none⟩ v2).setCell ⟨w.heap.size, 3, none⟩ v3) :=
  put_below (hb.setCell (p := ⟨w.heap.size + 1, j, none⟩) (Nat.le_succ _) u) (Nat.le_refl _) _ _ _ _
theorem two_new {w : World} {a b : Obj} : Below w.heap.size w ((w.alloc a).alloc b) := ((Below.refl _ _).alloc (Nat.le_refl _) _).alloc (by simp) _
theorem SubEnd.inr {k : Nat} {y : Rep (k + 1)} {n : Nat} {w w' : World} {e : Ending} (h : SubEnd (k + 1) (.inr (y, n)) w e w') :
    ∃ kd nm b A len cap, e = .returned (.tuple #[.agg #[.int .i64 kd, .int .i64 nm, .string b, .slice A len cap], .int .i64 n, .int .i64 0]) ∧ Below w.heap.size w w' ∧ RAt w' (fun b => w.heap.size ≤ b) (k + 1) y [.int .i64 kd, .int .i64 nm, .string b, .slice A len cap] := by
  obtain ⟨hb1, cs, he, hr⟩ := h
  obtain ⟨kd, nm, b, A, len, cap, rfl⟩ := hr.form (by omega)
  exact ⟨kd, nm, b, A, len, cap, he, hb1, hr⟩
theorem sub_inl {k : Nat} {x : Int} {w w' : World} {e : Ending} (h : SubEnd k (.inl x) w e w') : ∃ kd : Int, e = .returned (.tuple #[.agg #[.int .i64 kd, .int .i64 0, .string ⟨#[]⟩, .slice none 0 0], .int .i64 0, .int .i64 x]) ∧ Below w.heap.size w w' := by
  obtain ⟨hb, kd, he⟩ := h
  exact ⟨kd, he, hb⟩

set_option maxHeartbeats 2000000 in
theorem one_sign43 (k within : Nat) (s : ByteArray) (w : World) (hs : s.size < 4294967281) (h0 : 0 < s.size) (hc : (s[(0 : Nat)].toNat : Int) = 43) :
    Calls Tryd.prog 27 #[.string s, .int .i64 within] w (TakeEnd (k + 1) (plus1 (lineN 1 (s.extract 1 s.size).data.toList : Sum Int (RNode (Rep k) × Nat))) w) := by
  have q43 : ((s[(0 : Nat)].toNat : Int) == 43) = true := by rw [hc]; decide
  have hemp : s.toList.isEmpty = false := by rw [Lib.toList_data, cons_at s h0]; rfl
  clear hc
  have htz : (s.extract 1 s.size).size = s.size - 1 := by simp
  have hx := fun w => rline_any (s.extract 1 s.size) w (by omega)
  cases hq : lineGo [] (s.extract 1 s.size).data.toList with
  | inl x =>
    have hL : (lineN 1 (s.extract 1 s.size).data.toList : Sum Int (RNode (Rep k) × Nat)) = .inl x := by unfold lineN; rw [hq]
    have hx0 : (x != 0) = true := by simpa using line_err hL
    have hR : Hid (plus1 (lineN 1 (s.extract 1 s.size).data.toList : Sum Int (RNode (Rep k) × Nat)) = .inl x) := Lib.hid (by rw [hL]; rfl)
    have hcall : ∀ w, Calls Tryd.prog 40 #[.string (s.extract 1 s.size)] w fun e w' => e = .returned (.tuple #[.string ⟨#[]⟩, .int .i64 0, .int .i64 x]) ∧ w = w' := fun w => (hx w).mono fun e w' ⟨he, hw⟩ => ⟨by rw [hq] at he; exact he, hw⟩
    clear hx hq hL
    go_enter Tryd.func27, Tryd.ntmps27
    go_wp2_with (go_at_call 40; ((with_reducible refine (hcall _).mono ?_); rintro e w1 ⟨rfl, rfl⟩))
    refine bodyPost_ret (v := .tuple #[.agg #[.int .i64 0, .int .i64 0, .string ⟨#[]⟩, .slice none 0 0], .int .i64 0, .int .i64 x]) (by simp [results, Tryd.results27, go_sem]) rfl ?_
    exact take_no hR.out two_new
  | inr q =>
    have hL : (lineN 1 (s.extract 1 s.size).data.toList : Sum Int (RNode (Rep k) × Nat)) = .inr (⟨1, 0, q, []⟩, q.length + 2) := by unfold lineN; rw [hq]
    have hR : Hid (plus1 (lineN 1 (s.extract 1 s.size).data.toList : Sum Int (RNode (Rep k) × Nat)) = .inr (⟨1, 0, q, []⟩, q.length + 2 + 1)) := Lib.hid (by rw [hL]; rfl)
    have hsz : q.length + 2 ≤ (s.extract 1 s.size).size ∧ ((s.extract 1 s.size).extract 0 q.length).data.toList = q := by
      obtain ⟨u, hu, _⟩ := lineGo_text _ _ _ hq (by intro c hc; cases hc)
      rw [List.nil_append] at hu
      have hl := congrArg List.length hu
      rw [List.length_append, List.length_cons, List.length_cons] at hl
      have e : (s.extract 1 s.size).data.toList.length = (s.extract 1 s.size).size := by simp
      exact ⟨by omega, by rw [head_data, hu, List.take_left]⟩
    have hcall : ∀ w, Calls Tryd.prog 40 #[.string (s.extract 1 s.size)] w fun e w' => e = .returned (.tuple #[.string ((s.extract 1 s.size).extract 0 q.length), .int .i64 ((q.length : Int) + 2), .int .i64 0]) ∧ w = w' := fun w => (hx w).mono fun e w' ⟨he, hw⟩ => ⟨by rw [hq] at he; exact he.2.2, hw⟩
    obtain ⟨hle, hdat⟩ := hsz
    have hdH := Lib.hid hdat
    clear hx hq hL hdat
    go_enter Tryd.func27, Tryd.ntmps27
    go_wp2_with (go_at_call 40; ((with_reducible refine (hcall _).mono ?_); rintro e w1 ⟨rfl, rfl⟩))
    refine bodyPost_ret (v := .tuple #[.agg #[.int .i64 1, .int .i64 0, .string ((s.extract 1 s.size).extract 0 q.length), .slice none 0 0], .int .i64 ((q.length : Int) + 2 + 1), .int .i64 0]) (by simp [results, Tryd.results27, go_sem]) rfl ?_
    exact take_leaf hR.out (by omega) two_new hdH.out (by unfold inI64; omega) (by unfold inI64; omega) (by simp; omega)

set_option maxHeartbeats 2000000 in
theorem one_sign45 (k within : Nat) (s : ByteArray) (w : World) (hs : s.size < 4294967281) (h0 : 0 < s.size) (hc : (s[(0 : Nat)].toNat : Int) = 45) :
    Calls Tryd.prog 27 #[.string s, .int .i64 within] w (TakeEnd (k + 1) (plus1 (lineN 2 (s.extract 1 s.size).data.toList : Sum Int (RNode (Rep k) × Nat))) w) := by
  have q43 : ((s[(0 : Nat)].toNat : Int) == 43) = false := by rw [hc]; decide
  have q45 : ((s[(0 : Nat)].toNat : Int) == 45) = true := by rw [hc]; decide
  have hemp : s.toList.isEmpty = false := by rw [Lib.toList_data, cons_at s h0]; rfl
  clear hc
  have htz : (s.extract 1 s.size).size = s.size - 1 := by simp
  have hx := fun w => rline_any (s.extract 1 s.size) w (by omega)
  cases hq : lineGo [] (s.extract 1 s.size).data.toList with
  | inl x =>
    have hL : (lineN 2 (s.extract 1 s.size).data.toList : Sum Int (RNode (Rep k) × Nat)) = .inl x := by unfold lineN; rw [hq]
    have hx0 : (x != 0) = true := by simpa using line_err hL
    have hR : Hid (plus1 (lineN 2 (s.extract 1 s.size).data.toList : Sum Int (RNode (Rep k) × Nat)) = .inl x) := Lib.hid (by rw [hL]; rfl)
    have hcall : ∀ w, Calls Tryd.prog 40 #[.string (s.extract 1 s.size)] w fun e w' => e = .returned (.tuple #[.string ⟨#[]⟩, .int .i64 0, .int .i64 x]) ∧ w = w' := fun w => (hx w).mono fun e w' ⟨he, hw⟩ => ⟨by rw [hq] at he; exact he, hw⟩
    clear hx hq hL
    go_enter Tryd.func27, Tryd.ntmps27
    go_wp2_with (go_at_call 40; ((with_reducible refine (hcall _).mono ?_); rintro e w1 ⟨rfl, rfl⟩))
    refine bodyPost_ret (v := .tuple #[.agg #[.int .i64 0, .int .i64 0, .string ⟨#[]⟩, .slice none 0 0], .int .i64 0, .int .i64 x]) (by simp [results, Tryd.results27, go_sem]) rfl ?_
    exact take_no hR.out two_new
  | inr q =>
    have hL : (lineN 2 (s.extract 1 s.size).data.toList : Sum Int (RNode (Rep k) × Nat)) = .inr (⟨2, 0, q, []⟩, q.length + 2) := by unfold lineN; rw [hq]
    have hR : Hid (plus1 (lineN 2 (s.extract 1 s.size).data.toList : Sum Int (RNode (Rep k) × Nat)) = .inr (⟨2, 0, q, []⟩, q.length + 2 + 1)) := Lib.hid (by rw [hL]; rfl)
    have hsz : q.length + 2 ≤ (s.extract 1 s.size).size ∧ ((s.extract 1 s.size).extract 0 q.length).data.toList = q := by
      obtain ⟨u, hu, _⟩ := lineGo_text _ _ _ hq (by intro c hc; cases hc)
      rw [List.nil_append] at hu
      have hl := congrArg List.length hu
      rw [List.length_append, List.length_cons, List.length_cons] at hl
      have e : (s.extract 1 s.size).data.toList.length = (s.extract 1 s.size).size := by simp
      exact ⟨by omega, by rw [head_data, hu, List.take_left]⟩
    have hcall : ∀ w, Calls Tryd.prog 40 #[.string (s.extract 1 s.size)] w fun e w' => e = .returned (.tuple #[.string ((s.extract 1 s.size).extract 0 q.length), .int .i64 ((q.length : Int) + 2), .int .i64 0]) ∧ w = w' := fun w => (hx w).mono fun e w' ⟨he, hw⟩ => ⟨by rw [hq] at he; exact he.2.2, hw⟩
    obtain ⟨hle, hdat⟩ := hsz
    have hdH := Lib.hid hdat
    clear hx hq hL hdat
    go_enter Tryd.func27, Tryd.ntmps27
    go_wp2_with (go_at_call 40; ((with_reducible refine (hcall _).mono ?_); rintro e w1 ⟨rfl, rfl⟩))
    refine bodyPost_ret (v := .tuple #[.agg #[.int .i64 2, .int .i64 0, .string ((s.extract 1 s.size).extract 0 q.length), .slice none 0 0], .int .i64 ((q.length : Int) + 2 + 1), .int .i64 0]) (by simp [results, Tryd.results27, go_sem]) rfl ?_
    exact take_leaf hR.out (by omega) two_new hdH.out (by unfold inI64; omega) (by unfold inI64; omega) (by simp; omega)

set_option maxHeartbeats 2000000 in
theorem one_sign58 (k within : Nat) (s : ByteArray) (w : World) (hs : s.size < 4294967281) (h0 : 0 < s.size) (hc : (s[(0 : Nat)].toNat : Int) = 58) :
    Calls Tryd.prog 27 #[.string s, .int .i64 within] w (TakeEnd (k + 1) (plus1 (numN (s.extract 1 s.size).data.toList : Sum Int (RNode (Rep k) × Nat))) w) := by
  have q43 : ((s[(0 : Nat)].toNat : Int) == 43) = false := by rw [hc]; decide
  have q45 : ((s[(0 : Nat)].toNat : Int) == 45) = false := by rw [hc]; decide
  have q58 : ((s[(0 : Nat)].toNat : Int) == 58) = true := by rw [hc]; decide
  have hemp : s.toList.isEmpty = false := by rw [Lib.toList_data, cons_at s h0]; rfl
  clear hc
  have htz : (s.extract 1 s.size).size = s.size - 1 := by simp
  have hx := whole_any (s.extract 1 s.size) (two4k 3 w) (by omega)
  obtain ⟨z0, z1, z2, z3⟩ := two4k_facts 3 w
  have z1H := Lib.hid z1
  have z2H := Lib.hid z2
  have z0H := Lib.hid z0
  clear z0 z1 z2
  cases hD : whF [] (s.extract 1 s.size).data.toList with
  | inl x =>
    have hL : (numN (s.extract 1 s.size).data.toList : Sum Int (RNode (Rep k) × Nat)) = .inl x := by unfold numN; unfold whF at hD; rw [hD]
    have hx0 : (x != 0) = true := by rcases dec_err _ _ _ hD with e | e | e <;> rw [e] <;> decide
    have hR : Hid (plus1 (numN (s.extract 1 s.size).data.toList : Sum Int (RNode (Rep k) × Nat)) = .inl x) := Lib.hid (by rw [hL]; rfl)
    have hcall : Calls Tryd.prog 41 #[.string (s.extract 1 s.size)] (two4k 3 w) fun e w' => e = .returned (.tuple #[.int .i64 0, .int .i64 0, .int .i64 x]) ∧ Below (two4k 3 w).heap.size (two4k 3 w) w' := hx.mono fun e w' ⟨he, hw⟩ => ⟨by rw [hD] at he; exact he, hw⟩
    clear hx hD hL
    unfold two4k at *
    go_enter Tryd.func27, Tryd.ntmps27
    go_wp2_with (go_at_call 41; ((with_reducible refine hcall.mono ?_); rintro e w1 ⟨rfl, hb1⟩; have hbm := hb1.mono (show w.heap.size + 2 ≤ _ by rw [z0H.out]; exact Nat.le_refl _); have hzz : w.heap.size + 1 < w1.heap.size := (by have := hb1.size; have := z0H.out; omega); obtain ⟨c0, c1, c2, c3, f0, f1, f2, f3⟩ := cells4 hbm z1H.out (by omega); obtain ⟨e0, e1, e2, e3, g0, g1, g2, g3⟩ := cells4 hbm z2H.out (by omega)))
    have hl := laid_one (j := 1) (u := .int .i64 0) (v0 := .int .i64 0) (v1 := .int .i64 0) (v2 := .string ⟨#[]⟩) (v3 := .slice none 0 0) ((hbm.block w.heap.size (by omega)).trans z1H.out)
    have hB := Lib.hid (one_below (z3.trans (hbm.mono (by omega))) (j := 1) (u := .int .i64 0) (v0 := .int .i64 0) (v1 := .int .i64 0) (v2 := .string ⟨#[]⟩) (v3 := .slice none 0 0))
    generalize (((((w1.setCell ⟨w.heap.size + 1, 1, none⟩ (.int .i64 0)).setCell ⟨w.heap.size, 0, none⟩ (.int .i64 0)).setCell ⟨w.heap.size, 1, none⟩ (.int .i64 0)).setCell ⟨w.heap.size, 2, none⟩ (.string ⟨#[]⟩)).setCell ⟨w.heap.size, 3, none⟩ (.slice none 0 0)) = w2 at hl hB ⊢
    obtain ⟨d0, d1, d2, d3⟩ := read4 hl
    refine bodyPost_ret (v := .tuple #[.agg #[.int .i64 0, .int .i64 0, .string ⟨#[]⟩, .slice none 0 0], .int .i64 0, .int .i64 x]) (by simp [results, Tryd.results27, go_sem, d0, d1, d2, d3]) rfl ?_
    exact take_no hR.out hB.out
  | inr q =>
    obtain ⟨n, j⟩ := q
    have hL : (numN (s.extract 1 s.size).data.toList : Sum Int (RNode (Rep k) × Nat)) = .inr (⟨3, n, [], []⟩, j) := by unfold numN; unfold whF at hD; rw [hD]
    have hR : Hid (plus1 (numN (s.extract 1 s.size).data.toList : Sum Int (RNode (Rep k) × Nat)) = .inr (⟨3, n, [], []⟩, j + 1)) := Lib.hid (by rw [hL]; rfl)
    have hcall : Calls Tryd.prog 41 #[.string (s.extract 1 s.size)] (two4k 3 w) fun e w' => e = .returned (.tuple #[.int .i64 n, .int .i64 j, .int .i64 0]) ∧ Below (two4k 3 w).heap.size (two4k 3 w) w' := hx.mono fun e w' ⟨he, hw⟩ => ⟨by rw [hD] at he; exact he, hw⟩
    obtain ⟨hle, _, _, _, hn⟩ := dec_bounds hD
    clear hx hD hL
    unfold two4k at *
    go_enter Tryd.func27, Tryd.ntmps27
    go_wp2_with (go_at_call 41; ((with_reducible refine hcall.mono ?_); rintro e w1 ⟨rfl, hb1⟩; have hbm := hb1.mono (show w.heap.size + 2 ≤ _ by rw [z0H.out]; exact Nat.le_refl _); have hzz : w.heap.size + 1 < w1.heap.size := (by have := hb1.size; have := z0H.out; omega); obtain ⟨c0, c1, c2, c3, f0, f1, f2, f3⟩ := cells4 hbm z1H.out (by omega); obtain ⟨e0, e1, e2, e3, g0, g1, g2, g3⟩ := cells4 hbm z2H.out (by omega)))
    have hl := laid_one (j := 1) (u := .int .i64 n) (v0 := .int .i64 3) (v1 := .int .i64 n) (v2 := .string ⟨#[]⟩) (v3 := .slice none 0 0) ((hbm.block w.heap.size (by omega)).trans z1H.out)
    have hB := Lib.hid (one_below (z3.trans (hbm.mono (by omega))) (j := 1) (u := .int .i64 n) (v0 := .int .i64 3) (v1 := .int .i64 n) (v2 := .string ⟨#[]⟩) (v3 := .slice none 0 0))
    generalize (((((w1.setCell ⟨w.heap.size + 1, 1, none⟩ (.int .i64 n)).setCell ⟨w.heap.size, 0, none⟩ (.int .i64 3)).setCell ⟨w.heap.size, 1, none⟩ (.int .i64 n)).setCell ⟨w.heap.size, 2, none⟩ (.string ⟨#[]⟩)).setCell ⟨w.heap.size, 3, none⟩ (.slice none 0 0)) = w2 at hl hB ⊢
    obtain ⟨d0, d1, d2, d3⟩ := read4 hl
    refine bodyPost_ret (v := .tuple #[.agg #[.int .i64 3, .int .i64 n, .string ⟨#[]⟩, .slice none 0 0], .int .i64 ((j : Int) + 1), .int .i64 0]) (by simp [results, Tryd.results27, go_sem, d0, d1, d2, d3]) rfl ?_
    exact take_leaf hR.out (by omega) hB.out rfl (by unfold inI64; omega) hn (Nat.zero_le _)

set_option maxHeartbeats 2000000 in
theorem one_sign36 (k within : Nat) (s : ByteArray) (w : World) (hs : s.size < 4294967281) (h0 : 0 < s.size) (hc : (s[(0 : Nat)].toNat : Int) = 36) (_hw : within ≤ 8) (R : Sum Int (Rep (k + 1) × Nat))
    (hcall : ∀ w, Calls Tryd.prog 42 #[.string (s.extract 1 s.size)] w (SubEnd (k + 1) R w)) (hne : ∀ x, R = .inl x → x ≠ 0) (hn : ∀ y n, R = .inr (y, n) → n ≤ s.size) :
    Calls Tryd.prog 27 #[.string s, .int .i64 within] w (TakeEnd (k + 1) (plus1 R) w) := by
  have q43 : ((s[(0 : Nat)].toNat : Int) == 43) = false := by rw [hc]; decide
  have q45 : ((s[(0 : Nat)].toNat : Int) == 45) = false := by rw [hc]; decide
  have q58 : ((s[(0 : Nat)].toNat : Int) == 58) = false := by rw [hc]; decide
  have q36 : ((s[(0 : Nat)].toNat : Int) == 36) = true := by rw [hc]; decide
  have hemp : s.toList.isEmpty = false := by rw [Lib.toList_data, cons_at s h0]; rfl
  clear hc
  obtain ⟨z0, z1, z2, z3⟩ := two4_facts w
  have z1H := Lib.hid z1
  have z2H := Lib.hid z2
  have z0H := Lib.hid z0
  clear z0 z1 z2
  cases R with
  | inl x =>
    have hx0 : (x != 0) = true := by simpa using hne x rfl
    have hcall' := (hcall (two4 w)).mono fun e w' h => sub_inl h
    clear hcall hne hn
    unfold two4 at *
    go_enter Tryd.func27, Tryd.ntmps27
    go_wp2_with (go_at_call 42; ((with_reducible refine hcall'.mono ?_); rintro e w1 ⟨kd, rfl, hb1⟩; have hbm := hb1.mono (show w.heap.size + 2 ≤ _ by rw [z0H.out]; exact Nat.le_refl _); have hzz : w.heap.size + 1 < w1.heap.size := (by have := hb1.size; have := z0H.out; omega); obtain ⟨c0, c1, c2, c3, f0, f1, f2, f3⟩ := cells4 hbm z1H.out (by omega); obtain ⟨e0, e1, e2, e3, g0, g1, g2, g3⟩ := cells4 hbm z2H.out (by omega)))
    have hl := laid_two (u0 := .int .i64 kd) (u1 := .int .i64 0) (u2 := .string ⟨#[]⟩) (u3 := .slice none 0 0) (v0 := .int .i64 0) (v1 := .int .i64 0) (v2 := .string ⟨#[]⟩) (v3 := .slice none 0 0) ((hbm.block w.heap.size (by omega)).trans z1H.out)
    have hB := Lib.hid (two_below (z3.trans (hbm.mono (by omega))) (u0 := .int .i64 kd) (u1 := .int .i64 0) (u2 := .string ⟨#[]⟩) (u3 := .slice none 0 0) (v0 := .int .i64 0) (v1 := .int .i64 0) (v2 := .string ⟨#[]⟩) (v3 := .slice none 0 0))
    generalize ((((((((w1.setCell ⟨w.heap.size + 1, 0, none⟩ (.int .i64 kd)).setCell ⟨w.heap.size + 1, 1, none⟩ (.int .i64 0)).setCell ⟨w.heap.size + 1, 2, none⟩ (.string ⟨#[]⟩)).setCell ⟨w.heap.size + 1, 3, none⟩ (.slice none 0 0)).setCell ⟨w.heap.size, 0, none⟩ (.int .i64 0)).setCell ⟨w.heap.size, 1, none⟩ (.int .i64 0)).setCell ⟨w.heap.size, 2, none⟩ (.string ⟨#[]⟩)).setCell ⟨w.heap.size, 3, none⟩ (.slice none 0 0)) = w2 at hl hB ⊢
    obtain ⟨d0, d1, d2, d3⟩ := read4 hl
    refine bodyPost_ret (v := .tuple #[.agg #[.int .i64 0, .int .i64 0, .string ⟨#[]⟩, .slice none 0 0], .int .i64 0, .int .i64 x]) (by simp [results, Tryd.results27, go_sem, d0, d1, d2, d3]) rfl ?_
    exact take_no rfl hB.out
  | inr q =>
    obtain ⟨y, n⟩ := q
    have hle := hn y n rfl
    have hcall' := (hcall (two4 w)).mono fun e w' h => SubEnd.inr h
    clear hcall hne hn
    unfold two4 at *
    go_enter Tryd.func27, Tryd.ntmps27
    go_wp2_with (go_at_call 42; ((with_reducible refine hcall'.mono ?_); rintro e w1 ⟨kd, nm, b, A, len, cap, rfl, hb1, hr⟩; have hbm := hb1.mono (show w.heap.size + 2 ≤ _ by rw [z0H.out]; exact Nat.le_refl _); have hzz : w.heap.size + 1 < w1.heap.size := (by have := hb1.size; have := z0H.out; omega); obtain ⟨c0, c1, c2, c3, f0, f1, f2, f3⟩ := cells4 hbm z1H.out (by omega); obtain ⟨e0, e1, e2, e3, g0, g1, g2, g3⟩ := cells4 hbm z2H.out (by omega)))
    have hl := laid_two (u0 := .int .i64 kd) (u1 := .int .i64 nm) (u2 := .string b) (u3 := .slice A len cap) (v0 := .int .i64 kd) (v1 := .int .i64 nm) (v2 := .string b) (v3 := .slice A len cap) ((hbm.block w.heap.size (by omega)).trans z1H.out)
    have hB := Lib.hid (two_below (z3.trans (hbm.mono (by omega))) (u0 := .int .i64 kd) (u1 := .int .i64 nm) (u2 := .string b) (u3 := .slice A len cap) (v0 := .int .i64 kd) (v1 := .int .i64 nm) (v2 := .string b) (v3 := .slice A len cap))
    have hO := Lib.hid (two_over (g := w.heap.size) (hr.weaken fun b hb _ => by have := z0H.out; omega) (u0 := .int .i64 kd) (u1 := .int .i64 nm) (u2 := .string b) (u3 := .slice A len cap) (v0 := .int .i64 kd) (v1 := .int .i64 nm) (v2 := .string b) (v3 := .slice A len cap))
    generalize ((((((((w1.setCell ⟨w.heap.size + 1, 0, none⟩ (.int .i64 kd)).setCell ⟨w.heap.size + 1, 1, none⟩ (.int .i64 nm)).setCell ⟨w.heap.size + 1, 2, none⟩ (.string b)).setCell ⟨w.heap.size + 1, 3, none⟩ (.slice A len cap)).setCell ⟨w.heap.size, 0, none⟩ (.int .i64 kd)).setCell ⟨w.heap.size, 1, none⟩ (.int .i64 nm)).setCell ⟨w.heap.size, 2, none⟩ (.string b)).setCell ⟨w.heap.size, 3, none⟩ (.slice A len cap)) = w2 at hl hB hO ⊢
    obtain ⟨d0, d1, d2, d3⟩ := read4 hl
    refine bodyPost_ret (v := .tuple #[.agg #[.int .i64 kd, .int .i64 nm, .string b, .slice A len cap], .int .i64 ((n : Int) + 1), .int .i64 0]) (by simp [results, Tryd.results27, go_sem, d0, d1, d2, d3]) rfl ?_
    exact take_put rfl (by omega) hB.out hO.out

set_option maxHeartbeats 2000000 in
theorem one_sign42 (k within : Nat) (s : ByteArray) (w : World) (hs : s.size < 4294967281) (h0 : 0 < s.size) (hc : (s[(0 : Nat)].toNat : Int) = 42) (_hw : within ≤ 8) (R : Sum Int (Rep (k + 1) × Nat))
    (hcall : ∀ w, Calls Tryd.prog 43 #[.string (s.extract 1 s.size), .int .i64 within] w (SubEnd (k + 1) R w)) (hne : ∀ x, R = .inl x → x ≠ 0) (hn : ∀ y n, R = .inr (y, n) → n ≤ s.size) :
    Calls Tryd.prog 27 #[.string s, .int .i64 within] w (TakeEnd (k + 1) (plus1 R) w) := by
  have q43 : ((s[(0 : Nat)].toNat : Int) == 43) = false := by rw [hc]; decide
  have q45 : ((s[(0 : Nat)].toNat : Int) == 45) = false := by rw [hc]; decide
  have q58 : ((s[(0 : Nat)].toNat : Int) == 58) = false := by rw [hc]; decide
  have q36 : ((s[(0 : Nat)].toNat : Int) == 36) = false := by rw [hc]; decide
  have q42 : ((s[(0 : Nat)].toNat : Int) == 42) = true := by rw [hc]; decide
  have hemp : s.toList.isEmpty = false := by rw [Lib.toList_data, cons_at s h0]; rfl
  clear hc
  obtain ⟨z0, z1, z2, z3⟩ := two4_facts w
  have z1H := Lib.hid z1
  have z2H := Lib.hid z2
  have z0H := Lib.hid z0
  clear z0 z1 z2
  cases R with
  | inl x =>
    have hx0 : (x != 0) = true := by simpa using hne x rfl
    have hcall' := (hcall (two4 w)).mono fun e w' h => sub_inl h
    clear hcall hne hn
    unfold two4 at *
    go_enter Tryd.func27, Tryd.ntmps27
    go_wp2_with (go_at_call 43; ((with_reducible refine hcall'.mono ?_); rintro e w1 ⟨kd, rfl, hb1⟩; have hbm := hb1.mono (show w.heap.size + 2 ≤ _ by rw [z0H.out]; exact Nat.le_refl _); have hzz : w.heap.size + 1 < w1.heap.size := (by have := hb1.size; have := z0H.out; omega); obtain ⟨c0, c1, c2, c3, f0, f1, f2, f3⟩ := cells4 hbm z1H.out (by omega); obtain ⟨e0, e1, e2, e3, g0, g1, g2, g3⟩ := cells4 hbm z2H.out (by omega)))
    have hl := laid_two (u0 := .int .i64 kd) (u1 := .int .i64 0) (u2 := .string ⟨#[]⟩) (u3 := .slice none 0 0) (v0 := .int .i64 0) (v1 := .int .i64 0) (v2 := .string ⟨#[]⟩) (v3 := .slice none 0 0) ((hbm.block w.heap.size (by omega)).trans z1H.out)
    have hB := Lib.hid (two_below (z3.trans (hbm.mono (by omega))) (u0 := .int .i64 kd) (u1 := .int .i64 0) (u2 := .string ⟨#[]⟩) (u3 := .slice none 0 0) (v0 := .int .i64 0) (v1 := .int .i64 0) (v2 := .string ⟨#[]⟩) (v3 := .slice none 0 0))
    generalize ((((((((w1.setCell ⟨w.heap.size + 1, 0, none⟩ (.int .i64 kd)).setCell ⟨w.heap.size + 1, 1, none⟩ (.int .i64 0)).setCell ⟨w.heap.size + 1, 2, none⟩ (.string ⟨#[]⟩)).setCell ⟨w.heap.size + 1, 3, none⟩ (.slice none 0 0)).setCell ⟨w.heap.size, 0, none⟩ (.int .i64 0)).setCell ⟨w.heap.size, 1, none⟩ (.int .i64 0)).setCell ⟨w.heap.size, 2, none⟩ (.string ⟨#[]⟩)).setCell ⟨w.heap.size, 3, none⟩ (.slice none 0 0)) = w2 at hl hB ⊢
    obtain ⟨d0, d1, d2, d3⟩ := read4 hl
    refine bodyPost_ret (v := .tuple #[.agg #[.int .i64 0, .int .i64 0, .string ⟨#[]⟩, .slice none 0 0], .int .i64 0, .int .i64 x]) (by simp [results, Tryd.results27, go_sem, d0, d1, d2, d3]) rfl ?_
    exact take_no rfl hB.out
  | inr q =>
    obtain ⟨y, n⟩ := q
    have hle := hn y n rfl
    have hcall' := (hcall (two4 w)).mono fun e w' h => SubEnd.inr h
    clear hcall hne hn
    unfold two4 at *
    go_enter Tryd.func27, Tryd.ntmps27
    go_wp2_with (go_at_call 43; ((with_reducible refine hcall'.mono ?_); rintro e w1 ⟨kd, nm, b, A, len, cap, rfl, hb1, hr⟩; have hbm := hb1.mono (show w.heap.size + 2 ≤ _ by rw [z0H.out]; exact Nat.le_refl _); have hzz : w.heap.size + 1 < w1.heap.size := (by have := hb1.size; have := z0H.out; omega); obtain ⟨c0, c1, c2, c3, f0, f1, f2, f3⟩ := cells4 hbm z1H.out (by omega); obtain ⟨e0, e1, e2, e3, g0, g1, g2, g3⟩ := cells4 hbm z2H.out (by omega)))
    have hl := laid_two (u0 := .int .i64 kd) (u1 := .int .i64 nm) (u2 := .string b) (u3 := .slice A len cap) (v0 := .int .i64 kd) (v1 := .int .i64 nm) (v2 := .string b) (v3 := .slice A len cap) ((hbm.block w.heap.size (by omega)).trans z1H.out)
    have hB := Lib.hid (two_below (z3.trans (hbm.mono (by omega))) (u0 := .int .i64 kd) (u1 := .int .i64 nm) (u2 := .string b) (u3 := .slice A len cap) (v0 := .int .i64 kd) (v1 := .int .i64 nm) (v2 := .string b) (v3 := .slice A len cap))
    have hO := Lib.hid (two_over (g := w.heap.size) (hr.weaken fun b hb _ => by have := z0H.out; omega) (u0 := .int .i64 kd) (u1 := .int .i64 nm) (u2 := .string b) (u3 := .slice A len cap) (v0 := .int .i64 kd) (v1 := .int .i64 nm) (v2 := .string b) (v3 := .slice A len cap))
    generalize ((((((((w1.setCell ⟨w.heap.size + 1, 0, none⟩ (.int .i64 kd)).setCell ⟨w.heap.size + 1, 1, none⟩ (.int .i64 nm)).setCell ⟨w.heap.size + 1, 2, none⟩ (.string b)).setCell ⟨w.heap.size + 1, 3, none⟩ (.slice A len cap)).setCell ⟨w.heap.size, 0, none⟩ (.int .i64 kd)).setCell ⟨w.heap.size, 1, none⟩ (.int .i64 nm)).setCell ⟨w.heap.size, 2, none⟩ (.string b)).setCell ⟨w.heap.size, 3, none⟩ (.slice A len cap)) = w2 at hl hB hO ⊢
    obtain ⟨d0, d1, d2, d3⟩ := read4 hl
    refine bodyPost_ret (v := .tuple #[.agg #[.int .i64 kd, .int .i64 nm, .string b, .slice A len cap], .int .i64 ((n : Int) + 1), .int .i64 0]) (by simp [results, Tryd.results27, go_sem, d0, d1, d2, d3]) rfl ?_
    exact take_put rfl (by omega) hB.out hO.out

set_option maxHeartbeats 2000000 in
theorem one_other (k within : Nat) (s : ByteArray) (w : World) (_hs : s.size < 4294967281) (h0 : 0 < s.size) (h43 : ¬ (s[(0 : Nat)].toNat : Int) = 43) (h45 : ¬ (s[(0 : Nat)].toNat : Int) = 45) (h58 : ¬ (s[(0 : Nat)].toNat : Int) = 58) (h36 : ¬ (s[(0 : Nat)].toNat : Int) = 36) (h42 : ¬ (s[(0 : Nat)].toNat : Int) = 42)
    (R : Sum Int (Rep (k + 1) × Nat)) (hR : Hid (R = .inl 5)) : Calls Tryd.prog 27 #[.string s, .int .i64 within] w (TakeEnd (k + 1) R w) := by
  have q43 : ((s[(0 : Nat)].toNat : Int) == 43) = false := beq_eq_false_iff_ne.2 (h43)
  have q45 : ((s[(0 : Nat)].toNat : Int) == 45) = false := beq_eq_false_iff_ne.2 (h45)
  have q58 : ((s[(0 : Nat)].toNat : Int) == 58) = false := beq_eq_false_iff_ne.2 (h58)
  have q36 : ((s[(0 : Nat)].toNat : Int) == 36) = false := beq_eq_false_iff_ne.2 (h36)
  have q42 : ((s[(0 : Nat)].toNat : Int) == 42) = false := beq_eq_false_iff_ne.2 (h42)
  have hemp : s.toList.isEmpty = false := by rw [Lib.toList_data, cons_at s h0]; rfl
  clear h43 h45 h58 h36 h42
  go_enter Tryd.func27, Tryd.ntmps27
  go_wp2_with fail
  refine bodyPost_ret (v := .tuple #[.agg #[.int .i64 0, .int .i64 0, .string ⟨#[]⟩, .slice none 0 0], .int .i64 0, .int .i64 5]) (by simp [results, Tryd.results27, go_sem]) rfl ?_
  exact take_no hR.out two_new
set_option maxHeartbeats 2000000 in
theorem one_empty (k within : Nat) (s : ByteArray) (w : World) (h0 : s.toList = []) (_h1 : s.toList.isEmpty = true)
    (R : Sum Int (Rep (k + 1) × Nat)) (hR : Hid (R = .inl 4)) : Calls Tryd.prog 27 #[.string s, .int .i64 within] w (TakeEnd (k + 1) R w) := by
  go_enter Tryd.func27, Tryd.ntmps27
  go_wp2_with fail
  refine bodyPost_ret (v := .tuple #[.agg #[.int .i64 0, .int .i64 0, .string ⟨#[]⟩, .slice none 0 0], .int .i64 0, .int .i64 4]) (by simp [results, Tryd.results27, go_sem]) rfl ?_
  exact take_no hR.out ((Below.refl _ _).alloc (Nat.le_refl _) _)
theorem one_any (k : Nat) : ∀ (within : Nat), within + k = 8 → ∀ (s : ByteArray) (w : World), s.size < 4294967281 → Calls Tryd.prog 27 #[.string s, .int .i64 within] w (TakeEnd (k + 1) (takeF (k + 1) s.data.toList) w) := by
  have key : ∀ (k within : Nat), within + k = 8 → (∀ (s : ByteArray) (w : World), s.size < 4294967281 → k ≠ 0 → Calls Tryd.prog 27 #[.string s, .int .i64 ((within : Int) + 1)] w (TakeEnd k (takeF k s.data.toList) w)) →
      ∀ (s : ByteArray) (w : World), s.size < 4294967281 → Calls Tryd.prog 27 #[.string s, .int .i64 within] w (TakeEnd (k + 1) (takeF (k + 1) s.data.toList) w) := by
    intro k within hk ih s w hs
    rcases Nat.eq_zero_or_pos s.size with h0 | h0
    · have hl : s.data.toList = [] := List.eq_nil_of_length_eq_zero (by simpa using h0)
      exact one_empty k within s w (by rw [Lib.toList_data, hl]) (by rw [Lib.toList_data, hl]; rfl) _ (Lib.hid (by rw [hl]; rfl))
    · have hc := cons_at s h0
      have ht : (s.extract 1 s.size).data.toList = s.data.toList.drop 1 := tail_data s 1
      have htz : (s.extract 1 s.size).size < 4294967281 := by simp; omega
      have hlen : (s.data.toList.drop 1).length ≤ s.size := by simp
      rw [hc, takeF_cons]
      have hne : ∀ x, (signN (k == 0) (takeF k) s[(0 : Nat)] (s.data.toList.drop 1) : Sum Int (RNode (Rep k) × Nat)) = .inl x → x ≠ 0 := fun x hx => sign_err (takeF_err k) hx
      have hn : ∀ y n, (signN (k == 0) (takeF k) s[(0 : Nat)] (s.data.toList.drop 1) : Sum Int (RNode (Rep k) × Nat)) = .inr (y, n) → n ≤ s.size := fun y n hx => Nat.le_trans (sign_le hk hx) hlen
      by_cases h43 : (s[(0 : Nat)].toNat : Int) = 43
      · have := one_sign43 k within s w hs h0 h43
        rw [ht] at this
        rw [byte_of (c := s[(0 : Nat)]) (n := 43) (by decide) h43]
        exact this
      by_cases h45 : (s[(0 : Nat)].toNat : Int) = 45
      · have := one_sign45 k within s w hs h0 h45
        rw [ht] at this
        rw [byte_of (c := s[(0 : Nat)]) (n := 45) (by decide) h45]
        exact this
      by_cases h58 : (s[(0 : Nat)].toNat : Int) = 58
      · have := one_sign58 k within s w hs h0 h58
        rw [ht] at this
        rw [byte_of (c := s[(0 : Nat)]) (n := 58) (by decide) h58]
        exact this
      by_cases h36 : (s[(0 : Nat)].toNat : Int) = 36
      · refine one_sign36 k within s w hs h0 h36 (by omega) _ (fun w => ?_) hne hn
        have := bulk_any k (s.extract 1 s.size) w htz
        rw [ht] at this
        rw [byte_of (c := s[(0 : Nat)]) (n := 36) (by decide) h36]
        exact this
      by_cases h42 : (s[(0 : Nat)].toNat : Int) = 42
      · refine one_sign42 k within s w hs h0 h42 (by omega) _ (fun w => ?_) hne hn
        have := rlist_any k within hk ih (s.extract 1 s.size) w htz
        rw [ht] at this
        rw [byte_of (c := s[(0 : Nat)]) (n := 42) (by decide) h42]
        exact this
      · refine one_other k within s w hs h0 h43 h45 h58 h36 h42 _ (Lib.hid ?_)
        have e : ∀ n : Nat, n < 256 → ¬ (s[(0 : Nat)].toNat : Int) = n → ¬ s[(0 : Nat)] = UInt8.ofNat n := fun n hn hx e => hx (by rw [e, UInt8.toNat_ofNat']; omega)
        have e43 : ¬ s[(0 : Nat)] = 43 := e 43 (by decide) h43
        have e45 : ¬ s[(0 : Nat)] = 45 := e 45 (by decide) h45
        have e58 : ¬ s[(0 : Nat)] = 58 := e 58 (by decide) h58
        have e36 : ¬ s[(0 : Nat)] = 36 := e 36 (by decide) h36
        have e42 : ¬ s[(0 : Nat)] = 42 := e 42 (by decide) h42
        unfold signN
        rw [if_neg e43, if_neg e45, if_neg e58, if_neg e36, if_neg e42]
        rfl
  induction k with
  | zero => intro within hk; exact key 0 within hk (fun _ _ _ h => absurd rfl h)
  | succ k ih =>
    intro within hk
    refine key (k + 1) within hk fun s w hs _ => ?_
    have := ih (within + 1) (by omega) s w hs
    push_cast at this
    exact this

end Go.Proofs.YtogbjhpkbdmllaaDoor
