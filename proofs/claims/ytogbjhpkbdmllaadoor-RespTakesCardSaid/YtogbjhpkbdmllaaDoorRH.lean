/-
  The walk of the reader of a reply. A premise: the text is shorter than 4294967281 bytes.
-/
import Derived.Test.YtogbjhpkbdmllaaDoorRG
namespace Go.Proofs.YtogbjhpkbdmllaaDoor
open Go.RowKit Rp Dec

def two4 (w : World) : World := (w.alloc (.cells #[.int .i64 0, .int .i64 0, .string ⟨#[]⟩, .slice none 0 0] 24)).alloc (.cells #[.int .i64 0, .int .i64 0, .string ⟨#[]⟩, .slice none 0 0] 24)
theorem two4_facts (w : World) : (two4 w).heap.size = w.heap.size + 2 ∧ (two4 w).heap[w.heap.size]? = some (.cells #[.int .i64 0, .int .i64 0, .string ⟨#[]⟩, .slice none 0 0] 24 (0, 0)) ∧
    (two4 w).heap[w.heap.size + 1]? = some (.cells #[.int .i64 0, .int .i64 0, .string ⟨#[]⟩, .slice none 0 0] 24 (0, 0)) ∧ Below w.heap.size w (two4 w) := by
  refine ⟨by simp [two4], ?_, ?_, ((Below.refl _ _).alloc (Nat.le_refl _) _).alloc (by simp) _⟩
  · unfold two4
    rw [Below.heap_alloc _ _ _ (by simp)]
    exact heap_alloc_new w _
  · have := heap_alloc_new (w.alloc (.cells #[.int .i64 0, .int .i64 0, .string ⟨#[]⟩, .slice none 0 0] 24)) (.cells #[.int .i64 0, .int .i64 0, .string ⟨#[]⟩, .slice none 0 0] 24)
    simpa [two4] using this
/-- A reply that lies above is kept where two blocks below it are laid anew. -/
theorem RAt.over {W W' : World} {g k : Nat} {y : Rep k} {cs : List Value} (h : RAt W (fun b => g + 2 ≤ b) k y cs) (hs : W.heap.size ≤ W'.heap.size) (hk : ∀ p : Addr, g + 2 ≤ p.block → W'.cell? p = W.cell? p) : RAt W' (fun b => g ≤ b) k y cs :=
  h.keep (fun p hp _ => hk p hp) hs (fun b hb _ => by omega)
theorem TakeEnd.inr {k : Nat} {y : Rep (k + 1)} {n : Nat} {w w' : World} {e : Ending} (h : TakeEnd (k + 1) (.inr (y, n)) w e w') :
    ∃ kd nm b A len cap, e = .returned (.tuple #[.agg #[.int .i64 kd, .int .i64 nm, .string b, .slice A len cap], .int .i64 n, .int .i64 0]) ∧ Below w.heap.size w w' ∧ RAt w' (fun b => w.heap.size ≤ b) (k + 1) y [.int .i64 kd, .int .i64 nm, .string b, .slice A len cap] := by
  obtain ⟨hb1, cs, he, hr⟩ := h
  obtain ⟨kd, nm, b, A, len, cap, rfl⟩ := hr.form (by omega)
  exact ⟨kd, nm, b, A, len, cap, he, hb1, hr⟩
theorem take_put {k : Nat} {R : Sum Int (Rep k × Nat)} {y : Rep k} {n : Nat} {m : Int} {cs : Array Value} {w w' : World} (h : R = .inr (y, n)) (hm : m = n) (hb : Below w.heap.size w w') (hr : RAt w' (fun b => w.heap.size ≤ b) k y cs.toList) :
    TakeEnd k R w (.returned (.tuple #[.agg cs, .int .i64 m, .int .i64 0])) w' := by
  subst h hm
  exact ⟨hb, cs, rfl, hr⟩
theorem takeF_cons (k : Nat) (c : UInt8) (t : List UInt8) : takeF (k + 1) (c :: t) = (plus1 (signN (k == 0) (takeF k) c t : Sum Int (RNode (Rep k) × Nat))) := rfl
theorem cons_at (s : ByteArray) (h : 0 < s.size) : s.data.toList = s[(0 : Nat)] :: s.data.toList.drop 1 := by
  have := take_drop_head s 0 h
  simpa using this

theorem laid_two {W : World} {g : Nat} {c0 c1 c2 c3 u0 u1 u2 u3 v0 v1 v2 v3 : Value} (h : W.heap[g]? = some (.cells #[c0, c1, c2, c3] 24 (0, 0))) :
    ((((((((W.setCell ⟨g + 1, 0, none⟩ (u0)).setCell ⟨g + 1, 1, none⟩ (u1)).setCell ⟨g + 1, 2, none⟩ (u2)).setCell ⟨g + 1, 3, none⟩ (u3)).setCell ⟨g, 0, none⟩ (v0)).setCell ⟨g, 1, none⟩ (v1)).setCell ⟨g, 2, none⟩ (v2)).setCell ⟨g, 3, none⟩ (v3)).heap[g]? = some (.cells #[v0, v1, v2, v3] 24 (0, 0)) := by
  refine laid4 (c0 := c0) (c1 := c1) (c2 := c2) (c3 := c3) ?_
  rw [Below.heap_setCell _ _ _ _ (show g ≠ g + 1 by omega), Below.heap_setCell _ _ _ _ (show g ≠ g + 1 by omega), Below.heap_setCell _ _ _ _ (show g ≠ g + 1 by omega), Below.heap_setCell _ _ _ _ (show g ≠ g + 1 by omega)]
  exact h
theorem two_below {w W : World} (hb : Below w.heap.size w W) {u0 u1 u2 u3 v0 v1 v2 v3 : Value} : Below w.heap.size w ((((((((W.setCell ⟨w.heap.size + 1, 0, none⟩ (u0)).setCell ⟨w.heap.size + 1, 1, none⟩ (u1)).setCell ⟨w.heap.size + 1, 2, none⟩ (u2)).setCell ⟨w.heap.size + 1, 3, none⟩ (u3)).setCell ⟨w.heap.size, 0, none⟩ (v0)).setCell ⟨w.heap.size, 1, none⟩ (v1)).setCell ⟨w.heap.size, 2, none⟩ (v2)).setCell ⟨w.heap.size, 3, none⟩ (v3)) :=
  put_below (put_below hb (Nat.le_succ _) _ _ _ _) (Nat.le_refl _) _ _ _ _
theorem two_over {W : World} {g k : Nat} {y : Rep k} {cs : List Value} (h : RAt W (fun b => g + 2 ≤ b) k y cs) {u0 u1 u2 u3 v0 v1 v2 v3 : Value} : RAt ((((((((W.setCell ⟨g + 1, 0, none⟩ (u0)).setCell ⟨g + 1, 1, none⟩ (u1)).setCell ⟨g + 1, 2, none⟩ (u2)).setCell ⟨g + 1, 3, none⟩ (u3)).setCell ⟨g, 0, none⟩ (v0)).setCell ⟨g, 1, none⟩ (v1)).setCell ⟨g, 2, none⟩ (v2)).setCell ⟨g, 3, none⟩ (v3)) (fun b => g ≤ b) k y cs :=
  h.over (by simp) fun p hp => by rw [put_other p (by omega), put_other p (by omega)]

set_option maxHeartbeats 2000000 in
theorem take_sign43 (k : Nat) (within : Nat) (s : ByteArray) (w : World) (hs : s.size < 4294967281) (h0 : 0 < s.size) (hc : (s[(0 : Nat)].toNat : Int) = 43) (_hw : within ≤ 8) (R : Sum Int (Rep (k + 1) × Nat))
    (hcall : ∀ w, Calls Tryd.prog 36 #[.int .i64 1, .string (s.extract 1 s.size)] w (TakeEnd (k + 1) R w)) (hne : ∀ x, R = .inl x → x ≠ 0) (hn : ∀ y n, R = .inr (y, n) → n ≤ s.size) :
    Calls Tryd.prog 26 #[.string s, .int .i64 within] w (TakeEnd (k + 1) (plus1 R) w) := by
  have q43 : ((s[(0 : Nat)].toNat : Int) == 43) = true := by rw [hc]; decide
  have hemp : s.toList.isEmpty = false := by rw [Lib.toList_data, cons_at s h0]; rfl
  clear hc
  obtain ⟨z0, z1, z2, z3⟩ := two4_facts w
  have z1H := Lib.hid z1
  have z2H := Lib.hid z2
  have z0H := Lib.hid z0
  clear z0 z1 z2
  cases R with
  | inl x =>
    have hx0 : (x != 0) = true := by simpa using hne x rfl
    have hcall' := hcall (two4 w)
    clear hcall hne hn
    unfold two4 at *
    go_enter Tryd.func26, Tryd.ntmps26
    go_wp2_with (go_at_call 36; ((with_reducible refine hcall'.mono ?_); rintro e w1 ⟨hb1, rfl⟩; have hbm := hb1.mono (show w.heap.size + 2 ≤ _ by rw [z0H.out]; exact Nat.le_refl _); have hzz : w.heap.size + 1 < w1.heap.size := (by have := hb1.size; have := z0H.out; omega); obtain ⟨c0, c1, c2, c3, f0, f1, f2, f3⟩ := cells4 hbm z1H.out (by omega); obtain ⟨e0, e1, e2, e3, g0, g1, g2, g3⟩ := cells4 hbm z2H.out (by omega)))
    have hl := laid_two (u0 := .int .i64 0) (u1 := .int .i64 0) (u2 := .string ⟨#[]⟩) (u3 := .slice none 0 0) (v0 := .int .i64 0) (v1 := .int .i64 0) (v2 := .string ⟨#[]⟩) (v3 := .slice none 0 0) ((hbm.block w.heap.size (by omega)).trans z1H.out)
    have hB := Lib.hid (two_below (z3.trans (hbm.mono (by omega))) (u0 := .int .i64 0) (u1 := .int .i64 0) (u2 := .string ⟨#[]⟩) (u3 := .slice none 0 0) (v0 := .int .i64 0) (v1 := .int .i64 0) (v2 := .string ⟨#[]⟩) (v3 := .slice none 0 0))
    generalize ((((((((w1.setCell ⟨w.heap.size + 1, 0, none⟩ (.int .i64 0)).setCell ⟨w.heap.size + 1, 1, none⟩ (.int .i64 0)).setCell ⟨w.heap.size + 1, 2, none⟩ (.string ⟨#[]⟩)).setCell ⟨w.heap.size + 1, 3, none⟩ (.slice none 0 0)).setCell ⟨w.heap.size, 0, none⟩ (.int .i64 0)).setCell ⟨w.heap.size, 1, none⟩ (.int .i64 0)).setCell ⟨w.heap.size, 2, none⟩ (.string ⟨#[]⟩)).setCell ⟨w.heap.size, 3, none⟩ (.slice none 0 0)) = w2 at hl hB ⊢
    obtain ⟨d0, d1, d2, d3⟩ := read4 hl
    refine bodyPost_ret (v := .tuple #[.agg #[.int .i64 0, .int .i64 0, .string ⟨#[]⟩, .slice none 0 0], .int .i64 0, .int .i64 x]) (by simp [results, Tryd.results26, go_sem, d0, d1, d2, d3]) rfl ?_
    exact take_no rfl hB.out
  | inr q =>
    obtain ⟨y, n⟩ := q
    have hle := hn y n rfl
    have hcall' := (hcall (two4 w)).mono fun e w' h => TakeEnd.inr h
    clear hcall hne hn
    unfold two4 at *
    go_enter Tryd.func26, Tryd.ntmps26
    go_wp2_with (go_at_call 36; ((with_reducible refine hcall'.mono ?_); rintro e w1 ⟨kd, nm, b, A, len, cap, rfl, hb1, hr⟩; have hbm := hb1.mono (show w.heap.size + 2 ≤ _ by rw [z0H.out]; exact Nat.le_refl _); have hzz : w.heap.size + 1 < w1.heap.size := (by have := hb1.size; have := z0H.out; omega); obtain ⟨c0, c1, c2, c3, f0, f1, f2, f3⟩ := cells4 hbm z1H.out (by omega); obtain ⟨e0, e1, e2, e3, g0, g1, g2, g3⟩ := cells4 hbm z2H.out (by omega)))
    have hl := laid_two (u0 := .int .i64 kd) (u1 := .int .i64 nm) (u2 := .string b) (u3 := .slice A len cap) (v0 := .int .i64 kd) (v1 := .int .i64 nm) (v2 := .string b) (v3 := .slice A len cap) ((hbm.block w.heap.size (by omega)).trans z1H.out)
    have hB := Lib.hid (two_below (z3.trans (hbm.mono (by omega))) (u0 := .int .i64 kd) (u1 := .int .i64 nm) (u2 := .string b) (u3 := .slice A len cap) (v0 := .int .i64 kd) (v1 := .int .i64 nm) (v2 := .string b) (v3 := .slice A len cap))
    have hO := Lib.hid (two_over (g := w.heap.size) (hr.weaken fun b hb _ => by have := z0H.out; omega) (u0 := .int .i64 kd) (u1 := .int .i64 nm) (u2 := .string b) (u3 := .slice A len cap) (v0 := .int .i64 kd) (v1 := .int .i64 nm) (v2 := .string b) (v3 := .slice A len cap))
    generalize ((((((((w1.setCell ⟨w.heap.size + 1, 0, none⟩ (.int .i64 kd)).setCell ⟨w.heap.size + 1, 1, none⟩ (.int .i64 nm)).setCell ⟨w.heap.size + 1, 2, none⟩ (.string b)).setCell ⟨w.heap.size + 1, 3, none⟩ (.slice A len cap)).setCell ⟨w.heap.size, 0, none⟩ (.int .i64 kd)).setCell ⟨w.heap.size, 1, none⟩ (.int .i64 nm)).setCell ⟨w.heap.size, 2, none⟩ (.string b)).setCell ⟨w.heap.size, 3, none⟩ (.slice A len cap)) = w2 at hl hB hO ⊢
    obtain ⟨d0, d1, d2, d3⟩ := read4 hl
    refine bodyPost_ret (v := .tuple #[.agg #[.int .i64 kd, .int .i64 nm, .string b, .slice A len cap], .int .i64 ((n : Int) + 1), .int .i64 0]) (by simp [results, Tryd.results26, go_sem, d0, d1, d2, d3]) rfl ?_
    exact take_put rfl (by omega) hB.out hO.out

set_option maxHeartbeats 2000000 in
theorem take_sign45 (k : Nat) (within : Nat) (s : ByteArray) (w : World) (hs : s.size < 4294967281) (h0 : 0 < s.size) (hc : (s[(0 : Nat)].toNat : Int) = 45) (_hw : within ≤ 8) (R : Sum Int (Rep (k + 1) × Nat))
    (hcall : ∀ w, Calls Tryd.prog 36 #[.int .i64 2, .string (s.extract 1 s.size)] w (TakeEnd (k + 1) R w)) (hne : ∀ x, R = .inl x → x ≠ 0) (hn : ∀ y n, R = .inr (y, n) → n ≤ s.size) :
    Calls Tryd.prog 26 #[.string s, .int .i64 within] w (TakeEnd (k + 1) (plus1 R) w) := by
  have q43 : ((s[(0 : Nat)].toNat : Int) == 43) = false := by rw [hc]; decide
  have q45 : ((s[(0 : Nat)].toNat : Int) == 45) = true := by rw [hc]; decide
  have hemp : s.toList.isEmpty = false := by rw [Lib.toList_data, cons_at s h0]; rfl
  clear hc
  obtain ⟨z0, z1, z2, z3⟩ := two4_facts w
  have z1H := Lib.hid z1
  have z2H := Lib.hid z2
  have z0H := Lib.hid z0
  clear z0 z1 z2
  cases R with
  | inl x =>
    have hx0 : (x != 0) = true := by simpa using hne x rfl
    have hcall' := hcall (two4 w)
    clear hcall hne hn
    unfold two4 at *
    go_enter Tryd.func26, Tryd.ntmps26
    go_wp2_with (go_at_call 36; ((with_reducible refine hcall'.mono ?_); rintro e w1 ⟨hb1, rfl⟩; have hbm := hb1.mono (show w.heap.size + 2 ≤ _ by rw [z0H.out]; exact Nat.le_refl _); have hzz : w.heap.size + 1 < w1.heap.size := (by have := hb1.size; have := z0H.out; omega); obtain ⟨c0, c1, c2, c3, f0, f1, f2, f3⟩ := cells4 hbm z1H.out (by omega); obtain ⟨e0, e1, e2, e3, g0, g1, g2, g3⟩ := cells4 hbm z2H.out (by omega)))
    have hl := laid_two (u0 := .int .i64 0) (u1 := .int .i64 0) (u2 := .string ⟨#[]⟩) (u3 := .slice none 0 0) (v0 := .int .i64 0) (v1 := .int .i64 0) (v2 := .string ⟨#[]⟩) (v3 := .slice none 0 0) ((hbm.block w.heap.size (by omega)).trans z1H.out)
    have hB := Lib.hid (two_below (z3.trans (hbm.mono (by omega))) (u0 := .int .i64 0) (u1 := .int .i64 0) (u2 := .string ⟨#[]⟩) (u3 := .slice none 0 0) (v0 := .int .i64 0) (v1 := .int .i64 0) (v2 := .string ⟨#[]⟩) (v3 := .slice none 0 0))
    generalize ((((((((w1.setCell ⟨w.heap.size + 1, 0, none⟩ (.int .i64 0)).setCell ⟨w.heap.size + 1, 1, none⟩ (.int .i64 0)).setCell ⟨w.heap.size + 1, 2, none⟩ (.string ⟨#[]⟩)).setCell ⟨w.heap.size + 1, 3, none⟩ (.slice none 0 0)).setCell ⟨w.heap.size, 0, none⟩ (.int .i64 0)).setCell ⟨w.heap.size, 1, none⟩ (.int .i64 0)).setCell ⟨w.heap.size, 2, none⟩ (.string ⟨#[]⟩)).setCell ⟨w.heap.size, 3, none⟩ (.slice none 0 0)) = w2 at hl hB ⊢
    obtain ⟨d0, d1, d2, d3⟩ := read4 hl
    refine bodyPost_ret (v := .tuple #[.agg #[.int .i64 0, .int .i64 0, .string ⟨#[]⟩, .slice none 0 0], .int .i64 0, .int .i64 x]) (by simp [results, Tryd.results26, go_sem, d0, d1, d2, d3]) rfl ?_
    exact take_no rfl hB.out
  | inr q =>
    obtain ⟨y, n⟩ := q
    have hle := hn y n rfl
    have hcall' := (hcall (two4 w)).mono fun e w' h => TakeEnd.inr h
    clear hcall hne hn
    unfold two4 at *
    go_enter Tryd.func26, Tryd.ntmps26
    go_wp2_with (go_at_call 36; ((with_reducible refine hcall'.mono ?_); rintro e w1 ⟨kd, nm, b, A, len, cap, rfl, hb1, hr⟩; have hbm := hb1.mono (show w.heap.size + 2 ≤ _ by rw [z0H.out]; exact Nat.le_refl _); have hzz : w.heap.size + 1 < w1.heap.size := (by have := hb1.size; have := z0H.out; omega); obtain ⟨c0, c1, c2, c3, f0, f1, f2, f3⟩ := cells4 hbm z1H.out (by omega); obtain ⟨e0, e1, e2, e3, g0, g1, g2, g3⟩ := cells4 hbm z2H.out (by omega)))
    have hl := laid_two (u0 := .int .i64 kd) (u1 := .int .i64 nm) (u2 := .string b) (u3 := .slice A len cap) (v0 := .int .i64 kd) (v1 := .int .i64 nm) (v2 := .string b) (v3 := .slice A len cap) ((hbm.block w.heap.size (by omega)).trans z1H.out)
    have hB := Lib.hid (two_below (z3.trans (hbm.mono (by omega))) (u0 := .int .i64 kd) (u1 := .int .i64 nm) (u2 := .string b) (u3 := .slice A len cap) (v0 := .int .i64 kd) (v1 := .int .i64 nm) (v2 := .string b) (v3 := .slice A len cap))
    have hO := Lib.hid (two_over (g := w.heap.size) (hr.weaken fun b hb _ => by have := z0H.out; omega) (u0 := .int .i64 kd) (u1 := .int .i64 nm) (u2 := .string b) (u3 := .slice A len cap) (v0 := .int .i64 kd) (v1 := .int .i64 nm) (v2 := .string b) (v3 := .slice A len cap))
    generalize ((((((((w1.setCell ⟨w.heap.size + 1, 0, none⟩ (.int .i64 kd)).setCell ⟨w.heap.size + 1, 1, none⟩ (.int .i64 nm)).setCell ⟨w.heap.size + 1, 2, none⟩ (.string b)).setCell ⟨w.heap.size + 1, 3, none⟩ (.slice A len cap)).setCell ⟨w.heap.size, 0, none⟩ (.int .i64 kd)).setCell ⟨w.heap.size, 1, none⟩ (.int .i64 nm)).setCell ⟨w.heap.size, 2, none⟩ (.string b)).setCell ⟨w.heap.size, 3, none⟩ (.slice A len cap)) = w2 at hl hB hO ⊢
    obtain ⟨d0, d1, d2, d3⟩ := read4 hl
    refine bodyPost_ret (v := .tuple #[.agg #[.int .i64 kd, .int .i64 nm, .string b, .slice A len cap], .int .i64 ((n : Int) + 1), .int .i64 0]) (by simp [results, Tryd.results26, go_sem, d0, d1, d2, d3]) rfl ?_
    exact take_put rfl (by omega) hB.out hO.out

set_option maxHeartbeats 2000000 in
theorem take_sign58 (k : Nat) (within : Nat) (s : ByteArray) (w : World) (hs : s.size < 4294967281) (h0 : 0 < s.size) (hc : (s[(0 : Nat)].toNat : Int) = 58) (_hw : within ≤ 8) (R : Sum Int (Rep (k + 1) × Nat))
    (hcall : ∀ w, Calls Tryd.prog 37 #[.string (s.extract 1 s.size)] w (TakeEnd (k + 1) R w)) (hne : ∀ x, R = .inl x → x ≠ 0) (hn : ∀ y n, R = .inr (y, n) → n ≤ s.size) :
    Calls Tryd.prog 26 #[.string s, .int .i64 within] w (TakeEnd (k + 1) (plus1 R) w) := by
  have q43 : ((s[(0 : Nat)].toNat : Int) == 43) = false := by rw [hc]; decide
  have q45 : ((s[(0 : Nat)].toNat : Int) == 45) = false := by rw [hc]; decide
  have q58 : ((s[(0 : Nat)].toNat : Int) == 58) = true := by rw [hc]; decide
  have hemp : s.toList.isEmpty = false := by rw [Lib.toList_data, cons_at s h0]; rfl
  clear hc
  obtain ⟨z0, z1, z2, z3⟩ := two4_facts w
  have z1H := Lib.hid z1
  have z2H := Lib.hid z2
  have z0H := Lib.hid z0
  clear z0 z1 z2
  cases R with
  | inl x =>
    have hx0 : (x != 0) = true := by simpa using hne x rfl
    have hcall' := hcall (two4 w)
    clear hcall hne hn
    unfold two4 at *
    go_enter Tryd.func26, Tryd.ntmps26
    go_wp2_with (go_at_call 37; ((with_reducible refine hcall'.mono ?_); rintro e w1 ⟨hb1, rfl⟩; have hbm := hb1.mono (show w.heap.size + 2 ≤ _ by rw [z0H.out]; exact Nat.le_refl _); have hzz : w.heap.size + 1 < w1.heap.size := (by have := hb1.size; have := z0H.out; omega); obtain ⟨c0, c1, c2, c3, f0, f1, f2, f3⟩ := cells4 hbm z1H.out (by omega); obtain ⟨e0, e1, e2, e3, g0, g1, g2, g3⟩ := cells4 hbm z2H.out (by omega)))
    have hl := laid_two (u0 := .int .i64 0) (u1 := .int .i64 0) (u2 := .string ⟨#[]⟩) (u3 := .slice none 0 0) (v0 := .int .i64 0) (v1 := .int .i64 0) (v2 := .string ⟨#[]⟩) (v3 := .slice none 0 0) ((hbm.block w.heap.size (by omega)).trans z1H.out)
    have hB := Lib.hid (two_below (z3.trans (hbm.mono (by omega))) (u0 := .int .i64 0) (u1 := .int .i64 0) (u2 := .string ⟨#[]⟩) (u3 := .slice none 0 0) (v0 := .int .i64 0) (v1 := .int .i64 0) (v2 := .string ⟨#[]⟩) (v3 := .slice none 0 0))
    generalize ((((((((w1.setCell ⟨w.heap.size + 1, 0, none⟩ (.int .i64 0)).setCell ⟨w.heap.size + 1, 1, none⟩ (.int .i64 0)).setCell ⟨w.heap.size + 1, 2, none⟩ (.string ⟨#[]⟩)).setCell ⟨w.heap.size + 1, 3, none⟩ (.slice none 0 0)).setCell ⟨w.heap.size, 0, none⟩ (.int .i64 0)).setCell ⟨w.heap.size, 1, none⟩ (.int .i64 0)).setCell ⟨w.heap.size, 2, none⟩ (.string ⟨#[]⟩)).setCell ⟨w.heap.size, 3, none⟩ (.slice none 0 0)) = w2 at hl hB ⊢
    obtain ⟨d0, d1, d2, d3⟩ := read4 hl
    refine bodyPost_ret (v := .tuple #[.agg #[.int .i64 0, .int .i64 0, .string ⟨#[]⟩, .slice none 0 0], .int .i64 0, .int .i64 x]) (by simp [results, Tryd.results26, go_sem, d0, d1, d2, d3]) rfl ?_
    exact take_no rfl hB.out
  | inr q =>
    obtain ⟨y, n⟩ := q
    have hle := hn y n rfl
    have hcall' := (hcall (two4 w)).mono fun e w' h => TakeEnd.inr h
    clear hcall hne hn
    unfold two4 at *
    go_enter Tryd.func26, Tryd.ntmps26
    go_wp2_with (go_at_call 37; ((with_reducible refine hcall'.mono ?_); rintro e w1 ⟨kd, nm, b, A, len, cap, rfl, hb1, hr⟩; have hbm := hb1.mono (show w.heap.size + 2 ≤ _ by rw [z0H.out]; exact Nat.le_refl _); have hzz : w.heap.size + 1 < w1.heap.size := (by have := hb1.size; have := z0H.out; omega); obtain ⟨c0, c1, c2, c3, f0, f1, f2, f3⟩ := cells4 hbm z1H.out (by omega); obtain ⟨e0, e1, e2, e3, g0, g1, g2, g3⟩ := cells4 hbm z2H.out (by omega)))
    have hl := laid_two (u0 := .int .i64 kd) (u1 := .int .i64 nm) (u2 := .string b) (u3 := .slice A len cap) (v0 := .int .i64 kd) (v1 := .int .i64 nm) (v2 := .string b) (v3 := .slice A len cap) ((hbm.block w.heap.size (by omega)).trans z1H.out)
    have hB := Lib.hid (two_below (z3.trans (hbm.mono (by omega))) (u0 := .int .i64 kd) (u1 := .int .i64 nm) (u2 := .string b) (u3 := .slice A len cap) (v0 := .int .i64 kd) (v1 := .int .i64 nm) (v2 := .string b) (v3 := .slice A len cap))
    have hO := Lib.hid (two_over (g := w.heap.size) (hr.weaken fun b hb _ => by have := z0H.out; omega) (u0 := .int .i64 kd) (u1 := .int .i64 nm) (u2 := .string b) (u3 := .slice A len cap) (v0 := .int .i64 kd) (v1 := .int .i64 nm) (v2 := .string b) (v3 := .slice A len cap))
    generalize ((((((((w1.setCell ⟨w.heap.size + 1, 0, none⟩ (.int .i64 kd)).setCell ⟨w.heap.size + 1, 1, none⟩ (.int .i64 nm)).setCell ⟨w.heap.size + 1, 2, none⟩ (.string b)).setCell ⟨w.heap.size + 1, 3, none⟩ (.slice A len cap)).setCell ⟨w.heap.size, 0, none⟩ (.int .i64 kd)).setCell ⟨w.heap.size, 1, none⟩ (.int .i64 nm)).setCell ⟨w.heap.size, 2, none⟩ (.string b)).setCell ⟨w.heap.size, 3, none⟩ (.slice A len cap)) = w2 at hl hB hO ⊢
    obtain ⟨d0, d1, d2, d3⟩ := read4 hl
    refine bodyPost_ret (v := .tuple #[.agg #[.int .i64 kd, .int .i64 nm, .string b, .slice A len cap], .int .i64 ((n : Int) + 1), .int .i64 0]) (by simp [results, Tryd.results26, go_sem, d0, d1, d2, d3]) rfl ?_
    exact take_put rfl (by omega) hB.out hO.out

set_option maxHeartbeats 2000000 in
theorem take_sign36 (k : Nat) (within : Nat) (s : ByteArray) (w : World) (hs : s.size < 4294967281) (h0 : 0 < s.size) (hc : (s[(0 : Nat)].toNat : Int) = 36) (_hw : within ≤ 8) (R : Sum Int (Rep (k + 1) × Nat))
    (hcall : ∀ w, Calls Tryd.prog 38 #[.string (s.extract 1 s.size)] w (TakeEnd (k + 1) R w)) (hne : ∀ x, R = .inl x → x ≠ 0) (hn : ∀ y n, R = .inr (y, n) → n ≤ s.size) :
    Calls Tryd.prog 26 #[.string s, .int .i64 within] w (TakeEnd (k + 1) (plus1 R) w) := by
  have q43 : ((s[(0 : Nat)].toNat : Int) == 43) = false := by rw [hc]; decide
  have q45 : ((s[(0 : Nat)].toNat : Int) == 45) = false := by rw [hc]; decide
  have q58 : ((s[(0 : Nat)].toNat : Int) == 58) = false := by rw [hc]; decide
  have q36 : ((s[(0 : Nat)].toNat : Int) == 36) = true := by rw [hc]; decide
  have hemp : s.toList.isEmpty = false := by rw [Lib.toList_data, cons_at s h0]; rfl
  clear hc
  obtain ⟨z0, z1, z2, z3⟩ := two4_facts w
  have z1H := Lib.hid z1
  have z2H := Lib.hid z2
  have z0H := Lib.hid z0
  clear z0 z1 z2
  cases R with
  | inl x =>
    have hx0 : (x != 0) = true := by simpa using hne x rfl
    have hcall' := hcall (two4 w)
    clear hcall hne hn
    unfold two4 at *
    go_enter Tryd.func26, Tryd.ntmps26
    go_wp2_with (go_at_call 38; ((with_reducible refine hcall'.mono ?_); rintro e w1 ⟨hb1, rfl⟩; have hbm := hb1.mono (show w.heap.size + 2 ≤ _ by rw [z0H.out]; exact Nat.le_refl _); have hzz : w.heap.size + 1 < w1.heap.size := (by have := hb1.size; have := z0H.out; omega); obtain ⟨c0, c1, c2, c3, f0, f1, f2, f3⟩ := cells4 hbm z1H.out (by omega); obtain ⟨e0, e1, e2, e3, g0, g1, g2, g3⟩ := cells4 hbm z2H.out (by omega)))
    have hl := laid_two (u0 := .int .i64 0) (u1 := .int .i64 0) (u2 := .string ⟨#[]⟩) (u3 := .slice none 0 0) (v0 := .int .i64 0) (v1 := .int .i64 0) (v2 := .string ⟨#[]⟩) (v3 := .slice none 0 0) ((hbm.block w.heap.size (by omega)).trans z1H.out)
    have hB := Lib.hid (two_below (z3.trans (hbm.mono (by omega))) (u0 := .int .i64 0) (u1 := .int .i64 0) (u2 := .string ⟨#[]⟩) (u3 := .slice none 0 0) (v0 := .int .i64 0) (v1 := .int .i64 0) (v2 := .string ⟨#[]⟩) (v3 := .slice none 0 0))
    generalize ((((((((w1.setCell ⟨w.heap.size + 1, 0, none⟩ (.int .i64 0)).setCell ⟨w.heap.size + 1, 1, none⟩ (.int .i64 0)).setCell ⟨w.heap.size + 1, 2, none⟩ (.string ⟨#[]⟩)).setCell ⟨w.heap.size + 1, 3, none⟩ (.slice none 0 0)).setCell ⟨w.heap.size, 0, none⟩ (.int .i64 0)).setCell ⟨w.heap.size, 1, none⟩ (.int .i64 0)).setCell ⟨w.heap.size, 2, none⟩ (.string ⟨#[]⟩)).setCell ⟨w.heap.size, 3, none⟩ (.slice none 0 0)) = w2 at hl hB ⊢
    obtain ⟨d0, d1, d2, d3⟩ := read4 hl
    refine bodyPost_ret (v := .tuple #[.agg #[.int .i64 0, .int .i64 0, .string ⟨#[]⟩, .slice none 0 0], .int .i64 0, .int .i64 x]) (by simp [results, Tryd.results26, go_sem, d0, d1, d2, d3]) rfl ?_
    exact take_no rfl hB.out
  | inr q =>
    obtain ⟨y, n⟩ := q
    have hle := hn y n rfl
    have hcall' := (hcall (two4 w)).mono fun e w' h => TakeEnd.inr h
    clear hcall hne hn
    unfold two4 at *
    go_enter Tryd.func26, Tryd.ntmps26
    go_wp2_with (go_at_call 38; ((with_reducible refine hcall'.mono ?_); rintro e w1 ⟨kd, nm, b, A, len, cap, rfl, hb1, hr⟩; have hbm := hb1.mono (show w.heap.size + 2 ≤ _ by rw [z0H.out]; exact Nat.le_refl _); have hzz : w.heap.size + 1 < w1.heap.size := (by have := hb1.size; have := z0H.out; omega); obtain ⟨c0, c1, c2, c3, f0, f1, f2, f3⟩ := cells4 hbm z1H.out (by omega); obtain ⟨e0, e1, e2, e3, g0, g1, g2, g3⟩ := cells4 hbm z2H.out (by omega)))
    have hl := laid_two (u0 := .int .i64 kd) (u1 := .int .i64 nm) (u2 := .string b) (u3 := .slice A len cap) (v0 := .int .i64 kd) (v1 := .int .i64 nm) (v2 := .string b) (v3 := .slice A len cap) ((hbm.block w.heap.size (by omega)).trans z1H.out)
    have hB := Lib.hid (two_below (z3.trans (hbm.mono (by omega))) (u0 := .int .i64 kd) (u1 := .int .i64 nm) (u2 := .string b) (u3 := .slice A len cap) (v0 := .int .i64 kd) (v1 := .int .i64 nm) (v2 := .string b) (v3 := .slice A len cap))
    have hO := Lib.hid (two_over (g := w.heap.size) (hr.weaken fun b hb _ => by have := z0H.out; omega) (u0 := .int .i64 kd) (u1 := .int .i64 nm) (u2 := .string b) (u3 := .slice A len cap) (v0 := .int .i64 kd) (v1 := .int .i64 nm) (v2 := .string b) (v3 := .slice A len cap))
    generalize ((((((((w1.setCell ⟨w.heap.size + 1, 0, none⟩ (.int .i64 kd)).setCell ⟨w.heap.size + 1, 1, none⟩ (.int .i64 nm)).setCell ⟨w.heap.size + 1, 2, none⟩ (.string b)).setCell ⟨w.heap.size + 1, 3, none⟩ (.slice A len cap)).setCell ⟨w.heap.size, 0, none⟩ (.int .i64 kd)).setCell ⟨w.heap.size, 1, none⟩ (.int .i64 nm)).setCell ⟨w.heap.size, 2, none⟩ (.string b)).setCell ⟨w.heap.size, 3, none⟩ (.slice A len cap)) = w2 at hl hB hO ⊢
    obtain ⟨d0, d1, d2, d3⟩ := read4 hl
    refine bodyPost_ret (v := .tuple #[.agg #[.int .i64 kd, .int .i64 nm, .string b, .slice A len cap], .int .i64 ((n : Int) + 1), .int .i64 0]) (by simp [results, Tryd.results26, go_sem, d0, d1, d2, d3]) rfl ?_
    exact take_put rfl (by omega) hB.out hO.out

set_option maxHeartbeats 2000000 in
theorem take_sign42 (k : Nat) (within : Nat) (s : ByteArray) (w : World) (hs : s.size < 4294967281) (h0 : 0 < s.size) (hc : (s[(0 : Nat)].toNat : Int) = 42) (_hw : within ≤ 8) (R : Sum Int (Rep (k + 1) × Nat))
    (hcall : ∀ w, Calls Tryd.prog 39 #[.string (s.extract 1 s.size), .int .i64 within] w (TakeEnd (k + 1) R w)) (hne : ∀ x, R = .inl x → x ≠ 0) (hn : ∀ y n, R = .inr (y, n) → n ≤ s.size) :
    Calls Tryd.prog 26 #[.string s, .int .i64 within] w (TakeEnd (k + 1) (plus1 R) w) := by
  have q43 : ((s[(0 : Nat)].toNat : Int) == 43) = false := by rw [hc]; decide
  have q45 : ((s[(0 : Nat)].toNat : Int) == 45) = false := by rw [hc]; decide
  have q58 : ((s[(0 : Nat)].toNat : Int) == 58) = false := by rw [hc]; decide
  have q36 : ((s[(0 : Nat)].toNat : Int) == 36) = false := by rw [hc]; decide
  have q42 : ((s[(0 : Nat)].toNat : Int) == 42) = true := by rw [hc]; decide
  have hemp : s.toList.isEmpty = false := by rw [Lib.toList_data, cons_at s h0]; rfl
  clear hc
  obtain ⟨z0, z1, z2, z3⟩ := two4_facts w
  have z1H := Lib.hid z1
  have z2H := Lib.hid z2
  have z0H := Lib.hid z0
  clear z0 z1 z2
  cases R with
  | inl x =>
    have hx0 : (x != 0) = true := by simpa using hne x rfl
    have hcall' := hcall (two4 w)
    clear hcall hne hn
    unfold two4 at *
    go_enter Tryd.func26, Tryd.ntmps26
    go_wp2_with (go_at_call 39; ((with_reducible refine hcall'.mono ?_); rintro e w1 ⟨hb1, rfl⟩; have hbm := hb1.mono (show w.heap.size + 2 ≤ _ by rw [z0H.out]; exact Nat.le_refl _); have hzz : w.heap.size + 1 < w1.heap.size := (by have := hb1.size; have := z0H.out; omega); obtain ⟨c0, c1, c2, c3, f0, f1, f2, f3⟩ := cells4 hbm z1H.out (by omega); obtain ⟨e0, e1, e2, e3, g0, g1, g2, g3⟩ := cells4 hbm z2H.out (by omega)))
    have hl := laid_two (u0 := .int .i64 0) (u1 := .int .i64 0) (u2 := .string ⟨#[]⟩) (u3 := .slice none 0 0) (v0 := .int .i64 0) (v1 := .int .i64 0) (v2 := .string ⟨#[]⟩) (v3 := .slice none 0 0) ((hbm.block w.heap.size (by omega)).trans z1H.out)
    have hB := Lib.hid (two_below (z3.trans (hbm.mono (by omega))) (u0 := .int .i64 0) (u1 := .int .i64 0) (u2 := .string ⟨#[]⟩) (u3 := .slice none 0 0) (v0 := .int .i64 0) (v1 := .int .i64 0) (v2 := .string ⟨#[]⟩) (v3 := .slice none 0 0))
    generalize ((((((((w1.setCell ⟨w.heap.size + 1, 0, none⟩ (.int .i64 0)).setCell ⟨w.heap.size + 1, 1, none⟩ (.int .i64 0)).setCell ⟨w.heap.size + 1, 2, none⟩ (.string ⟨#[]⟩)).setCell ⟨w.heap.size + 1, 3, none⟩ (.slice none 0 0)).setCell ⟨w.heap.size, 0, none⟩ (.int .i64 0)).setCell ⟨w.heap.size, 1, none⟩ (.int .i64 0)).setCell ⟨w.heap.size, 2, none⟩ (.string ⟨#[]⟩)).setCell ⟨w.heap.size, 3, none⟩ (.slice none 0 0)) = w2 at hl hB ⊢
    obtain ⟨d0, d1, d2, d3⟩ := read4 hl
    refine bodyPost_ret (v := .tuple #[.agg #[.int .i64 0, .int .i64 0, .string ⟨#[]⟩, .slice none 0 0], .int .i64 0, .int .i64 x]) (by simp [results, Tryd.results26, go_sem, d0, d1, d2, d3]) rfl ?_
    exact take_no rfl hB.out
  | inr q =>
    obtain ⟨y, n⟩ := q
    have hle := hn y n rfl
    have hcall' := (hcall (two4 w)).mono fun e w' h => TakeEnd.inr h
    clear hcall hne hn
    unfold two4 at *
    go_enter Tryd.func26, Tryd.ntmps26
    go_wp2_with (go_at_call 39; ((with_reducible refine hcall'.mono ?_); rintro e w1 ⟨kd, nm, b, A, len, cap, rfl, hb1, hr⟩; have hbm := hb1.mono (show w.heap.size + 2 ≤ _ by rw [z0H.out]; exact Nat.le_refl _); have hzz : w.heap.size + 1 < w1.heap.size := (by have := hb1.size; have := z0H.out; omega); obtain ⟨c0, c1, c2, c3, f0, f1, f2, f3⟩ := cells4 hbm z1H.out (by omega); obtain ⟨e0, e1, e2, e3, g0, g1, g2, g3⟩ := cells4 hbm z2H.out (by omega)))
    have hl := laid_two (u0 := .int .i64 kd) (u1 := .int .i64 nm) (u2 := .string b) (u3 := .slice A len cap) (v0 := .int .i64 kd) (v1 := .int .i64 nm) (v2 := .string b) (v3 := .slice A len cap) ((hbm.block w.heap.size (by omega)).trans z1H.out)
    have hB := Lib.hid (two_below (z3.trans (hbm.mono (by omega))) (u0 := .int .i64 kd) (u1 := .int .i64 nm) (u2 := .string b) (u3 := .slice A len cap) (v0 := .int .i64 kd) (v1 := .int .i64 nm) (v2 := .string b) (v3 := .slice A len cap))
    have hO := Lib.hid (two_over (g := w.heap.size) (hr.weaken fun b hb _ => by have := z0H.out; omega) (u0 := .int .i64 kd) (u1 := .int .i64 nm) (u2 := .string b) (u3 := .slice A len cap) (v0 := .int .i64 kd) (v1 := .int .i64 nm) (v2 := .string b) (v3 := .slice A len cap))
    generalize ((((((((w1.setCell ⟨w.heap.size + 1, 0, none⟩ (.int .i64 kd)).setCell ⟨w.heap.size + 1, 1, none⟩ (.int .i64 nm)).setCell ⟨w.heap.size + 1, 2, none⟩ (.string b)).setCell ⟨w.heap.size + 1, 3, none⟩ (.slice A len cap)).setCell ⟨w.heap.size, 0, none⟩ (.int .i64 kd)).setCell ⟨w.heap.size, 1, none⟩ (.int .i64 nm)).setCell ⟨w.heap.size, 2, none⟩ (.string b)).setCell ⟨w.heap.size, 3, none⟩ (.slice A len cap)) = w2 at hl hB hO ⊢
    obtain ⟨d0, d1, d2, d3⟩ := read4 hl
    refine bodyPost_ret (v := .tuple #[.agg #[.int .i64 kd, .int .i64 nm, .string b, .slice A len cap], .int .i64 ((n : Int) + 1), .int .i64 0]) (by simp [results, Tryd.results26, go_sem, d0, d1, d2, d3]) rfl ?_
    exact take_put rfl (by omega) hB.out hO.out

set_option maxHeartbeats 2000000 in
theorem take_other (k : Nat) (within : Nat) (s : ByteArray) (w : World) (hs : s.size < 4294967281) (h0 : 0 < s.size) (h43 : ¬ (s[(0 : Nat)].toNat : Int) = 43) (h45 : ¬ (s[(0 : Nat)].toNat : Int) = 45) (h58 : ¬ (s[(0 : Nat)].toNat : Int) = 58) (h36 : ¬ (s[(0 : Nat)].toNat : Int) = 36) (h42 : ¬ (s[(0 : Nat)].toNat : Int) = 42) (_hw : within ≤ 8)
    (R : Sum Int (Rep (k + 1) × Nat)) (hR : Hid (R = .inl 5)) : Calls Tryd.prog 26 #[.string s, .int .i64 within] w (TakeEnd (k + 1) R w) := by
  have q43 : ((s[(0 : Nat)].toNat : Int) == 43) = false := beq_eq_false_iff_ne.2 (h43)
  have q45 : ((s[(0 : Nat)].toNat : Int) == 45) = false := beq_eq_false_iff_ne.2 (h45)
  have q58 : ((s[(0 : Nat)].toNat : Int) == 58) = false := beq_eq_false_iff_ne.2 (h58)
  have q36 : ((s[(0 : Nat)].toNat : Int) == 36) = false := beq_eq_false_iff_ne.2 (h36)
  have q42 : ((s[(0 : Nat)].toNat : Int) == 42) = false := beq_eq_false_iff_ne.2 (h42)
  have hemp : s.toList.isEmpty = false := by rw [Lib.toList_data, cons_at s h0]; rfl
  clear h43 h45 h58 h36 h42
  go_enter Tryd.func26, Tryd.ntmps26
  go_wp2_with fail
  refine bodyPost_ret (v := .tuple #[.agg #[.int .i64 0, .int .i64 0, .string ⟨#[]⟩, .slice none 0 0], .int .i64 0, .int .i64 5]) (by simp [results, Tryd.results26, go_sem]) rfl ?_
  exact take_no hR.out (((Below.refl _ _).alloc (Nat.le_refl _) _).alloc (by simp) _)
set_option maxHeartbeats 2000000 in
theorem take_empty (k : Nat) (within : Nat) (s : ByteArray) (w : World) (h0 : s.toList = []) (_h1 : s.toList.isEmpty = true) (_hw : within ≤ 8)
    (R : Sum Int (Rep (k + 1) × Nat)) (hR : Hid (R = .inl 4)) : Calls Tryd.prog 26 #[.string s, .int .i64 within] w (TakeEnd (k + 1) R w) := by
  go_enter Tryd.func26, Tryd.ntmps26
  go_wp2_with fail
  refine bodyPost_ret (v := .tuple #[.agg #[.int .i64 0, .int .i64 0, .string ⟨#[]⟩, .slice none 0 0], .int .i64 0, .int .i64 4]) (by simp [results, Tryd.results26, go_sem]) rfl ?_
  exact take_no hR.out ((Below.refl _ _).alloc (Nat.le_refl _) _)
theorem byte_of {c : UInt8} {n : Nat} (hn : n < 256) (h : (c.toNat : Int) = n) : c = UInt8.ofNat n := by
  apply UInt8.toNat.inj
  rw [UInt8.toNat_ofNat']
  omega
theorem sign_le {k w : Nat} (hw : w + k = 8) {c : UInt8} {t : List UInt8} {y : Rep (k + 1)} {n : Nat} (h : (signN (k == 0) (takeF k) c t : Sum Int (RNode (Rep k) × Nat)) = .inr (y, n)) : n ≤ t.length := by
  have h2 : takeF (k + 1) (c :: t) = .inr (y, n + 1) := by rw [takeF_cons, h]; rfl
  have := takeF_le (w := w) (by omega) h2
  simp at this
  omega
theorem take_any (k : Nat) : ∀ (within : Nat), within + k = 8 → ∀ (s : ByteArray) (w : World), s.size < 4294967281 → Calls Tryd.prog 26 #[.string s, .int .i64 within] w (TakeEnd (k + 1) (takeF (k + 1) s.data.toList) w) := by
  have key : ∀ (k within : Nat), within + k = 8 → (∀ (s : ByteArray) (w : World), s.size < 4294967281 → k ≠ 0 → Calls Tryd.prog 26 #[.string s, .int .i64 ((within : Int) + 1)] w (TakeEnd k (takeF k s.data.toList) w)) →
      ∀ (s : ByteArray) (w : World), s.size < 4294967281 → Calls Tryd.prog 26 #[.string s, .int .i64 within] w (TakeEnd (k + 1) (takeF (k + 1) s.data.toList) w) := by
    intro k within hk ih s w hs
    rcases Nat.eq_zero_or_pos s.size with h0 | h0
    · have hl : s.data.toList = [] := List.eq_nil_of_length_eq_zero (by simpa using h0)
      exact take_empty k within s w (by rw [Lib.toList_data, hl]) (by rw [Lib.toList_data, hl]; rfl) (by omega) _ (Lib.hid (by rw [hl]; rfl))
    · have hc := cons_at s h0
      have ht : (s.extract 1 s.size).data.toList = s.data.toList.drop 1 := tail_data s 1
      have htz : (s.extract 1 s.size).size < 4294967281 := by simp; omega
      have hlen : (s.data.toList.drop 1).length ≤ s.size := by simp
      rw [hc, takeF_cons]
      have hne : ∀ x, (signN (k == 0) (takeF k) s[(0 : Nat)] (s.data.toList.drop 1) : Sum Int (RNode (Rep k) × Nat)) = .inl x → x ≠ 0 := fun x hx => sign_err (takeF_err k) hx
      have hn : ∀ y n, (signN (k == 0) (takeF k) s[(0 : Nat)] (s.data.toList.drop 1) : Sum Int (RNode (Rep k) × Nat)) = .inr (y, n) → n ≤ s.size := fun y n hx => Nat.le_trans (sign_le hk hx) hlen
      by_cases h43 : (s[(0 : Nat)].toNat : Int) = 43
      · refine take_sign43 k within s w hs h0 h43 (by omega) _ (fun w => ?_) hne hn
        have := takeLine_any k 1 (s.extract 1 s.size) w htz (by unfold inI64; omega)
        rw [ht] at this
        rw [byte_of (c := s[(0 : Nat)]) (n := 43) (by decide) h43]
        exact this
      by_cases h45 : (s[(0 : Nat)].toNat : Int) = 45
      · refine take_sign45 k within s w hs h0 h45 (by omega) _ (fun w => ?_) hne hn
        have := takeLine_any k 2 (s.extract 1 s.size) w htz (by unfold inI64; omega)
        rw [ht] at this
        rw [byte_of (c := s[(0 : Nat)]) (n := 45) (by decide) h45]
        exact this
      by_cases h58 : (s[(0 : Nat)].toNat : Int) = 58
      · refine take_sign58 k within s w hs h0 h58 (by omega) _ (fun w => ?_) hne hn
        have := takeNumber_any k (s.extract 1 s.size) w htz
        rw [ht] at this
        rw [byte_of (c := s[(0 : Nat)]) (n := 58) (by decide) h58]
        exact this
      by_cases h36 : (s[(0 : Nat)].toNat : Int) = 36
      · refine take_sign36 k within s w hs h0 h36 (by omega) _ (fun w => ?_) hne hn
        have := takeBulk_any k (s.extract 1 s.size) w htz
        rw [ht] at this
        rw [byte_of (c := s[(0 : Nat)]) (n := 36) (by decide) h36]
        exact this
      by_cases h42 : (s[(0 : Nat)].toNat : Int) = 42
      · refine take_sign42 k within s w hs h0 h42 (by omega) _ (fun w => ?_) hne hn
        have := takeList_any k within hk ih (s.extract 1 s.size) w htz
        rw [ht] at this
        rw [byte_of (c := s[(0 : Nat)]) (n := 42) (by decide) h42]
        exact this
      · refine take_other k within s w hs h0 h43 h45 h58 h36 h42 (by omega) _ (Lib.hid ?_)
        have e : ∀ n : Nat, n < 256 → ¬ (s[(0 : Nat)].toNat : Int) = n → ¬ s[(0 : Nat)] = UInt8.ofNat n := fun n hn hx e => hx (by rw [e, UInt8.toNat_ofNat']; omega)
        have e43 : ¬ s[(0 : Nat)] = 43 := e 43 (by decide) h43
        have e45 : ¬ s[(0 : Nat)] = 45 := e 45 (by decide) h45
        have e58 : ¬ s[(0 : Nat)] = 58 := e 58 (by decide) h58
        have e36 : ¬ s[(0 : Nat)] = 36 := e 36 (by decide) h36
        have e42 : ¬ s[(0 : Nat)] = 42 := e 42 (by decide) h42
        unfold signN
        rw [if_neg e43, if_neg e45, if_neg e58, if_neg e36, if_neg e42]
        rfl
  induction k with
  | zero => intro within hk; exact key 0 within hk (fun _ _ _ h => absurd rfl h)
  | succ k ih =>
    intro within hk
    refine key (k + 1) within hk fun s w hs _ => ?_
    have := ih (within + 1) (by omega) s w hs
    push_cast at this
    exact this

end Go.Proofs.YtogbjhpkbdmllaaDoor
