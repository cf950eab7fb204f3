/-
  What a level is behind the writes by which a pair comes or goes. Mathematics; no condition.
-/
import Derived.Test.YtijfipghoilpeaaDoorB
namespace Go.Proofs.YtijfipghoilpeaaDoor
open Go.RowKit

theorem set_other {w : World} {b i b' i' : Nat} (v : Value) (h : b' ≠ b ∨ i' ≠ i) : (w.setCell ⟨b, i, none⟩ v).cell? ⟨b', i', none⟩ = w.cell? ⟨b', i', none⟩ := by
  refine World.cell?_setCell_other _ _ _ _ (fun e => ?_)
  cases e
  omega
theorem ow_fun {D : Nat} {ns : List Nd} {L q b o b' o' : Nat} (h1 : Ow D ns L q b o) (h2 : Ow D ns L q b' o') : b' = b ∧ o' = o := by
  rcases h1 with ⟨rfl, rfl, rfl⟩ | ⟨n, a1, a2, a3, rfl, rfl⟩ <;> rcases h2 with ⟨e, rfl, rfl⟩ | ⟨m, b1, b2, b3, rfl, rfl⟩
  · exact ⟨rfl, rfl⟩
  · omega
  · omega
  · rw [a1] at b1
    cases b1
    exact ⟨rfl, rfl⟩
/-- Nothing is written but one link of one block, and one of another. -/
def Turned (w w' : World) (b o b2 L : Nat) : Prop := ∀ b' i, (b' ≠ b ∨ (i ≠ o + 2 * L ∧ i ≠ o + 2 * L + 1)) → (b' ≠ b2 ∨ (i ≠ 2 * L ∧ i ≠ 2 * L + 1)) → w'.cell? ⟨b', i, none⟩ = w.cell? ⟨b', i, none⟩
theorem Turned.blk {w w' : World} {b o b2 L : Nat} (h : Turned w w' b o b2 L) {b' : Nat} (h1 : b' ≠ b) (h2 : b' ≠ b2) (i : Nat) : w'.cell? ⟨b', i, none⟩ = w.cell? ⟨b', i, none⟩ := h b' i (Or.inl h1) (Or.inl h2)
theorem ow_at_ins {M : List Nd} {k : Nat} (hk : k ≤ M.length) (n : Nd) {D L b o : Nat} (h : Ow D M L (own M L k) b o) : Ow D (ins M k n) L (own M L k) b o := (ow_ins hk).2 (Or.inl ⟨own_le M L k, h⟩)
theorem ow_mem_ins {M : List Nd} {k : Nat} (hk : k ≤ M.length) (n : Nd) {D L q b o : Nat} (h : Ow D M L q b o) : ∃ q', Ow D (ins M k n) L q' b o := by
  rcases Nat.lt_or_ge k q with h1 | h1
  · exact ⟨q + 1, (ow_ins hk).2 (Or.inr (Or.inr ⟨by omega, by simpa using h⟩))⟩
  · exact ⟨q, (ow_ins hk).2 (Or.inl ⟨h1, h⟩)⟩
theorem mem_ins (M : List Nd) (k : Nat) (n : Nd) : n ∈ ins M k n := by unfold ins; simp
/-- Another level stays. -/
theorem lv_other {w w' : World} {D : Nat} {sd c : Int} {N X : List Nd} (hB : Base w D sd c N) {L L' b o q b2 : Nat} (hq : Ow D N L q b o) (hX : ∀ q' b' o', Ow D X L' q' b' o' → ∃ q'', Ow D N L' q'' b' o') (h2 : b2 ≠ D)
    (hT : Turned w w' b o b2 L) (hne : L' ≠ L) (hl : LvAt w D X L') : LvAt w' D X L' :=
  hl.keep fun q' b' o' hq' => by
    obtain ⟨q'', hq''⟩ := hX q' b' o' hq'
    have e1 : b' = b → o' = o := fun e => by subst e; exact (hB.ow_inj hq'' hq).2
    have e2 : b' = b2 → o' = 0 := fun e => by
      subst e
      rcases hq' with ⟨_, e, _⟩ | ⟨_, _, _, _, _, e⟩
      · exact absurd e h2
      · exact e
    constructor
    · refine hT b' _ ?_ ?_
      · by_cases e : b' = b
        · have := e1 e; right; omega
        · exact Or.inl e
      · by_cases e : b' = b2
        · have := e2 e; right; omega
        · exact Or.inl e
    · refine hT b' _ ?_ ?_
      · by_cases e : b' = b
        · have := e1 e; right; omega
        · exact Or.inl e
      · by_cases e : b' = b2
        · have := e2 e; right; omega
        · exact Or.inl e
theorem ow_new {M : List Nd} {k : Nat} (hk : k ≤ M.length) (n : Nd) {D L : Nat} (hn : L < n.h) : Ow D (ins M k n) L (k + 1) n.lb 0 := (ow_ins hk).2 (Or.inr (Or.inl ⟨rfl, hn, rfl, rfl⟩))
/-- A pair comes into a level in which it stands. -/
theorem join_hit {w w' : World} {D : Nat} {sd c : Int} {M : List Nd} {k : Nat} {n : Nd} (hB : Base w D sd c (ins M k n)) (hk : k ≤ M.length) {L b o : Nat} (hq : Ow D M L (own M L k) b o) (hn : L < n.h) (hm : LvAt w D M L)
    (hT : Turned w w' b o n.lb L) (c1 : w'.cell? ⟨b, o + 2 * L, none⟩ = some (.pointer (some ⟨n.nb, 0, none⟩))) (c2 : w'.cell? ⟨b, o + 2 * L + 1, none⟩ = some (.int .i64 ((k - own M L k + 1 : Nat) : Int)))
    (c3 : w'.cell? ⟨n.lb, 2 * L, none⟩ = some (.pointer (lnk L (M.drop (own M L k))).1)) (c4 : w'.cell? ⟨n.lb, 2 * L + 1, none⟩ = some (.int .i64 (((lnk L (M.drop (own M L k))).2 - (k - own M L k) : Nat) : Int))) : LvAt w' D (ins M k n) L := by
  intro q' b' o' hq'
  have hN := ow_new hk n (D := D) hn
  have hO := ow_at_ins hk n hq
  have hle := own_le M L k
  have hb : q' ≠ own M L k → b' ≠ b := fun h e => by subst e; exact h (hB.ow_inj hq' hO).1
  have hb2 : q' ≠ k + 1 → b' ≠ n.lb := fun h e => by subst e; exact h (hB.ow_inj hq' hN).1
  rcases (ow_ins hk).1 hq' with ⟨h0, h1⟩ | ⟨rfl, h1, rfl, rfl⟩ | ⟨h0, h1⟩
  · have hmax := ow_max h1 h0
    by_cases e : q' = own M L k
    · subst e
      obtain ⟨rfl, rfl⟩ := ow_fun hq h1
      rw [lnk_own_hit hk hn]
      exact ⟨c1, c2⟩
    · rw [lnk_before hk n (by omega), hT.blk (hb e) (hb2 (by omega)), hT.blk (hb e) (hb2 (by omega))]
      exact hm q' b' o' h1
  · have hl := lnk_own (M := M) (L := L) hk
    rw [ins_drop_gt hk n (by omega), Nat.add_sub_cancel, Nat.zero_add]
    rw [hl] at c3 c4
    refine ⟨c3, ?_⟩
    rw [c4]
    simp
  · rw [ins_drop_gt hk n (by omega), hT.blk (hb (by omega)) (hb2 (by omega)), hT.blk (hb (by omega)) (hb2 (by omega))]
    exact hm _ b' o' h1
/-- A pair comes past a level in which it doesn't stand. -/
theorem join_miss {w w' : World} {D : Nat} {sd c : Int} {M : List Nd} {k : Nat} {n : Nd} (hB : Base w D sd c (ins M k n)) (hk : k ≤ M.length) {L b o : Nat} (hq : Ow D M L (own M L k) b o) (hn : ¬ L < n.h) (hm : LvAt w D M L)
    (hT : ∀ b' i, (b' ≠ b ∨ i ≠ o + 2 * L + 1) → w'.cell? ⟨b', i, none⟩ = w.cell? ⟨b', i, none⟩) (c2 : w'.cell? ⟨b, o + 2 * L + 1, none⟩ = some (.int .i64 (((lnk L (M.drop (own M L k))).2 + 1 : Nat) : Int))) : LvAt w' D (ins M k n) L := by
  intro q' b' o' hq'
  have hO := ow_at_ins hk n hq
  have hle := own_le M L k
  have hb : q' ≠ own M L k → b' ≠ b := fun h e => by subst e; exact h (hB.ow_inj hq' hO).1
  rcases (ow_ins hk).1 hq' with ⟨h0, h1⟩ | ⟨rfl, h1, rfl, rfl⟩ | ⟨h0, h1⟩
  · have hmax := ow_max h1 h0
    by_cases e : q' = own M L k
    · subst e
      obtain ⟨rfl, rfl⟩ := ow_fun hq h1
      rw [lnk_own_miss hk hn]
      exact ⟨by rw [hT _ _ (Or.inr (by omega))]; exact (hm _ _ _ h1).1, c2⟩
    · rw [lnk_before hk n (by omega), hT _ _ (Or.inl (hb e)), hT _ _ (Or.inl (hb e))]
      exact hm q' b' o' h1
  · exact absurd h1 hn
  · rw [ins_drop_gt hk n (by omega), hT _ _ (Or.inl (hb (by omega))), hT _ _ (Or.inl (hb (by omega)))]
    exact hm _ b' o' h1
/-- What the level told of the pair that goes. -/
theorem part_was {w : World} {D : Nat} {M : List Nd} {k : Nat} {n : Nd} (hk : k ≤ M.length) {L b o : Nat} (hq : Ow D M L (own M L k) b o) (hm : LvAt w D (ins M k n) L) :
    w.cell? ⟨b, o + 2 * L, none⟩ = some (.pointer (lnk L ((ins M k n).drop (own M L k))).1) ∧ w.cell? ⟨b, o + 2 * L + 1, none⟩ = some (.int .i64 ((lnk L ((ins M k n).drop (own M L k))).2 : Nat)) := hm _ _ _ (ow_at_ins hk n hq)
theorem part_link {w : World} {D : Nat} {M : List Nd} {k : Nat} {n : Nd} (hk : k ≤ M.length) {L : Nat} (hn : L < n.h) (hm : LvAt w D (ins M k n) L) :
    w.cell? ⟨n.lb, 2 * L, none⟩ = some (.pointer (lnk L (M.drop k)).1) ∧ w.cell? ⟨n.lb, 2 * L + 1, none⟩ = some (.int .i64 ((lnk L (M.drop k)).2 : Nat)) := by
  have := hm _ _ _ (ow_new hk n (D := D) hn)
  rw [ins_drop_gt hk n (by omega), Nat.add_sub_cancel, Nat.zero_add] at this
  exact this
theorem part_any {w w' : World} {D : Nat} {sd c : Int} {M : List Nd} {k : Nat} {n : Nd} (hB : Base w D sd c (ins M k n)) (hk : k ≤ M.length) {L b o : Nat} (hq : Ow D M L (own M L k) b o) (hm : LvAt w D (ins M k n) L)
    (hT : ∀ b' i, b' ≠ b → w'.cell? ⟨b', i, none⟩ = w.cell? ⟨b', i, none⟩) (c1 : w'.cell? ⟨b, o + 2 * L, none⟩ = some (.pointer (lnk L (M.drop (own M L k))).1)) (c2 : w'.cell? ⟨b, o + 2 * L + 1, none⟩ = some (.int .i64 ((lnk L (M.drop (own M L k))).2 : Nat))) : LvAt w' D M L := by
  intro q' b' o' hq'
  have hO := ow_at_ins hk n hq
  have hle := own_le M L k
  by_cases h0 : q' ≤ k
  · have hmax := ow_max hq' h0
    have hI : Ow D (ins M k n) L q' b' o' := (ow_ins hk).2 (Or.inl ⟨h0, hq'⟩)
    by_cases e : q' = own M L k
    · subst e
      obtain ⟨rfl, rfl⟩ := ow_fun hq hq'
      exact ⟨c1, c2⟩
    · have hb : b' ≠ b := fun h => by subst h; exact e (hB.ow_inj hI hO).1
      rw [hT _ _ hb, hT _ _ hb, ← lnk_before hk n (by omega)]
      exact hm q' b' o' hI
  · have hI : Ow D (ins M k n) L (q' + 1) b' o' := (ow_ins hk).2 (Or.inr (Or.inr ⟨by omega, by simpa using hq'⟩))
    have hb : b' ≠ b := fun h => by
      subst h
      have := (hB.ow_inj hI hO).1
      omega
    have := hm _ _ _ hI
    rw [ins_drop_gt hk n (by omega), Nat.add_sub_cancel] at this
    rw [hT _ _ hb, hT _ _ hb]
    exact this
end Go.Proofs.YtijfipghoilpeaaDoor
