/-
  The walk of copyTo: a row of one's own is filled with the things from a place on. No condition but the sizes that a list's room has.
-/
import Derived.Test.YtnmcedkinacbpaaB
import Derived.Laws.CopyOwn
namespace Go.Proofs.Ytnmcedkinacbpaa
open Go.RowKit

/-- As many numbers, one behind the other. -/
def seg (x : Nat → Int) (p n : Nat) : List Value := (List.range n).map fun j => .int .i64 (x (p + j))
theorem seg_len (x : Nat → Int) (p n : Nat) : (seg x p n).length = n := by simp [seg]
theorem seg_at (x : Nat → Int) (p n j : Nat) (h : j < n) : (seg x p n)[j]? = some (.int .i64 (x (p + j))) := by simp [seg, h]
theorem seg_one (x : Nat → Int) (p n : Nat) : ∀ v ∈ seg x p n, v.oneCell' = true := by
  intro v hv
  obtain ⟨j, _, rfl⟩ := List.mem_map.1 hv
  rfl
theorem rot_add {N f p j : Nat} (hs : Sh N f 0) (h : p + j ≤ N) (_ : p ≤ N) : (rot N f p + j < N → rot N f (p + j) = rot N f p + j) ∧ (N ≤ rot N f p + j → rot N f (p + j) = rot N f p + j - N) := by
  obtain ⟨s1, _, _⟩ := hs
  unfold rot
  split <;> split <;> omega
theorem seg_src {w : World} {g N f p m hi lo : Nat} {x : Nat → Int} (hx : Rg w g N f lo hi x) (hs : Sh N f 0) (hl : lo ≤ p) (hm : p + m ≤ hi) (hn : p + m ≤ N) (hq : rot N f p + m ≤ N) :
    ∀ j v, (seg x p m)[j]? = some v → w.cell? ((⟨g, rot N f p, none⟩ : Addr).add j) = some v := by
  intro j v hj
  have hjl : j < m := by
    have := (List.getElem?_eq_some_iff.1 hj).1
    rwa [seg_len] at this
  rw [seg_at x p m j hjl] at hj
  have := (hx.cell (k := p + j) (by omega) (by omega)).1
  rw [(rot_add hs (by omega) (by omega)).1 (by omega)] at this
  rw [← hj, ← this]
  congr 1
  unfold Addr.add
  split <;> simp_all
theorem seg_src2 {w : World} {g N f p m hi lo o : Nat} {x : Nat → Int} (hx : Rg w g N f lo hi x) (hs : Sh N f 0) (hl : lo ≤ p) (hm : p + o + m ≤ hi) (hn : p + o + m ≤ N) (hq : 0 < m → rot N f p + o = N) :
    ∀ j v, (seg x (p + o) m)[j]? = some v → w.cell? ((⟨g, 0, none⟩ : Addr).add j) = some v := by
  intro j v hj
  have hjl : j < m := by
    have := (List.getElem?_eq_some_iff.1 hj).1
    rwa [seg_len] at this
  rw [seg_at x (p + o) m j hjl] at hj
  have := (hx.cell (k := p + o + j) (by omega) (by omega)).1
  have e := (rot_add (N := N) (f := f) (p := p) (j := o + j) hs (by omega) (by omega)).2 (by have := hq (by omega); omega)
  rw [Nat.add_assoc, e, show rot N f p + (o + j) - N = j by have := hq (by omega); omega] at this
  rw [← hj, Nat.add_assoc, ← this]
  congr 1
  unfold Addr.add
  split <;> simp_all
theorem add_block (a : Addr) (j : Nat) : (a.add j).block = a.block := by unfold Addr.add; split <;> rfl
theorem splice_at {α : Type} (X : List α) (o : Nat) (cs : List α) (h : o + cs.length ≤ X.length) (j : Nat) :
    (splice X o cs)[j]? = if j < o then X[j]? else if j < o + cs.length then cs[j - o]? else X[j]? := by
  unfold splice
  have ht : (X.take o).length = o := by simp; omega
  by_cases h1 : j < o
  · rw [List.getElem?_append_left (by omega), if_pos h1, List.getElem?_take, if_pos h1]
  · rw [List.getElem?_append_right (by omega), if_neg h1, ht]
    by_cases h2 : j < o + cs.length
    · rw [List.getElem?_append_left (by omega), if_pos h2]
    · rw [List.getElem?_append_right (by omega), if_neg h2, List.getElem?_drop]
      congr 1; omega

set_option maxHeartbeats 2000000 in
theorem copyTo_any {w : World} {D g N f m : Nat} (h : Hd w D (some ⟨g, 0, none⟩) N f m) (hs : Sh N f 0) {lo hi : Nat} {x : Nat → Int} (hx : Rg w g N f lo hi x) (p n cap b : Nat) (hlo : lo ≤ p) (hhi : p + n ≤ hi) (hpn : p + n ≤ N)
    (X : List Value) (hX : w.heap[b]? = some (.cells X.toArray 3 (0, 0))) (hnX : n ≤ X.length) (hcap : n ≤ cap) (hgb : g < b) :
    Calls Try.prog 36 #[.pointer (some ⟨D, 0, none⟩), .slice (some ⟨b, 0, none⟩) n cap, .int .i64 (p : Int)] w fun e w' => e = .returned (.tuple #[]) ∧ Below b w w' ∧
      ∃ Y : List Value, w'.heap[b]? = some (.cells Y.toArray 3 (0, 0)) ∧ Y.length = X.length ∧ (∀ j, j < n → Y[j]? = some (.int .i64 (x (p + j)))) ∧ ∀ j, n ≤ j → Y[j]? = X[j]? := by
  have hP := Lib.hid (pieces_any h hs p n (by omega) (by omega))
  obtain ⟨hq1, hq2⟩ := rot_le (p := p) hs (by omega)
  obtain ⟨k, hk⟩ : ∃ k, k = pc N f p n := ⟨_, rfl⟩
  have hk1 : k ≤ n := by unfold pc at hk; omega
  have hk2 : rot N f p + k ≤ N := by unfold pc at hk; omega
  have hk3 : k < n → rot N f p + k = N := by unfold pc at hk; omega
  obtain ⟨c1, hc1⟩ : ∃ c, c = seg x p k := ⟨_, rfl⟩
  obtain ⟨c2, hc2⟩ : ∃ c, c = seg x (p + k) (n - k) := ⟨_, rfl⟩
  have hl1 : c1.length = k := by rw [hc1, seg_len]
  have hl2 : c2.length = n - k := by rw [hc2, seg_len]
  have hs1 := Lib.hid (seg_src hx hs hlo (by omega) (by omega) hk2)
  have hs2 := Lib.hid (seg_src2 (o := k) (m := n - k) hx hs hlo (by omega) (by omega) (fun _ => hk3 (by omega)))
  have ho1 := Lib.hid (seg_one x p k)
  have ho2 := Lib.hid (seg_one x (p + k) (n - k))
  have hN3 := hs.2.2
  rw [← hk] at hP
  rw [← hc1] at hs1 ho1
  rw [← hc2] at hs2 ho2
  have hc1H := Lib.hid hc1
  have hc2H := Lib.hid hc2
  have hgl : ∀ (w1 : World), Below b w w1 → ∀ a : Addr, a.block = g → w1.cell? a = w.cell? a := fun w1 hb a ha => hb.cell (by omega)
  have hglH := Lib.hid hgl
  have hXH := Lib.hid hX
  clear h hs hx hk hc1 hc2 hlo hhi hpn hX hgl
  generalize rot N f p = q at *
  by_cases hck : k = cap
  · subst hck
    go_enter Try.func36, Try.ntmps36
    go_wp2_with (first
      | (go_at_call 38; ((with_reducible refine (hP.out).mono ?_); rintro e w' ⟨rfl, kd, rfl⟩))
      | (refine wpList_copy_splice (P := Try.prog) (w := w.drewN kd) (o := ⟨some 19, _, _, _, _, _⟩) (by rfl) (.tmp 17) (.tmp 18) 22 22 (by rfl) 3 Try.underlying22 (by kernel_rfl) (some ⟨b, 0, none⟩) (some ⟨g, q, none⟩) n k k (N - q) (by rfl) (by rfl) b 0 X 3 hXH.out c1 (by rw [hl1]; exact (Nat.min_eq_left hk1).symm) (fun _ => ⟨rfl, _, rfl, hs1.out⟩) (by omega) ho1.out b w (below_drewN (Below.refl b w) _) (Nat.le_refl _) ?_; intro w2 hX2 hB2; have hB2H := Lib.hid hB2; clear hB2; simp only [hl1, goInt])
      | (refine wpList_copy_splice (P := Try.prog) (w := w2) (o := ⟨some 22, _, _, _, _, _⟩) (by rfl) (.tmp 20) (.tmp 21) 22 22 (by rfl) 3 Try.underlying22 (by kernel_rfl) (some ⟨b, 0, none⟩) (some ⟨g, 0, none⟩) 0 0 0 N (by rfl) (by rfl) b k (splice X 0 c1) 3 hX2.out c2 (by rw [hl2]; show n - k = 0; omega) (fun hp => absurd hp (by omega)) (by rw [length_splice X 0 c1 (by omega)]; omega) ho2.out b w hB2H.out (Nat.le_refl _) ?_; intro w3 hX3 hB3; have hB3H := Lib.hid hB3; clear hB3))
    all_goals go_end0
    all_goals
      refine ⟨rfl, hB3H.out, _, hX3.out, ?_, fun j hj => ?_, fun j hj => ?_⟩
      · rw [length_splice _ _ _ (by rw [length_splice X 0 c1 (by omega)]; omega), length_splice X 0 c1 (by omega)]
      · rw [splice_at _ _ _ (by rw [length_splice X 0 c1 (by omega)]; omega)]
        by_cases h1 : j < k
        · rw [if_pos h1, splice_at _ _ _ (by omega), if_neg (by omega), if_pos (by omega), hc1H.out]
          exact seg_at x p k j h1
        · rw [if_neg h1, if_pos (by omega), hc2H.out, seg_at _ _ _ _ (by omega)]
          congr 3; omega
      · rw [splice_at _ _ _ (by rw [length_splice X 0 c1 (by omega)]; omega), if_neg (by omega), if_neg (by omega), splice_at _ _ _ (by omega), if_neg (by omega), if_neg (by omega)]
  · have hck2 : ¬ cap = k := fun e => hck e.symm
    go_enter Try.func36, Try.ntmps36
    go_wp2_with (first
      | (go_at_call 38; ((with_reducible refine (hP.out).mono ?_); rintro e w' ⟨rfl, kd, rfl⟩))
      | (refine wpList_copy_splice (P := Try.prog) (w := w.drewN kd) (o := ⟨some 19, _, _, _, _, _⟩) (by rfl) (.tmp 17) (.tmp 18) 22 22 (by rfl) 3 Try.underlying22 (by kernel_rfl) (some ⟨b, 0, none⟩) (some ⟨g, q, none⟩) n cap k (N - q) (by rfl) (by rfl) b 0 X 3 hXH.out c1 (by rw [hl1]; exact (Nat.min_eq_left hk1).symm) (fun _ => ⟨rfl, _, rfl, hs1.out⟩) (by omega) ho1.out b w (below_drewN (Below.refl b w) _) (Nat.le_refl _) ?_; intro w2 hX2 hB2; have hB2H := Lib.hid hB2; clear hB2; simp only [hl1, goInt])
      | (refine wpList_copy_splice (P := Try.prog) (w := w2) (o := ⟨some 22, _, _, _, _, _⟩) (by rfl) (.tmp 20) (.tmp 21) 22 22 (by rfl) 3 Try.underlying22 (by kernel_rfl) (some ⟨b, k, none⟩) (some ⟨g, 0, none⟩) (n - k) (cap - k) (n - k) N (by rfl) (by rfl) b k (splice X 0 c1) 3 hX2.out c2 (by rw [hl2]; exact (Nat.min_self _).symm) (fun _ => ⟨rfl, _, rfl, fun j v hj => (hglH.out w2 hB2H.out _ (add_block _ j)).trans (hs2.out j v hj)⟩) (by rw [length_splice X 0 c1 (by omega)]; omega) ho2.out b w hB2H.out (Nat.le_refl _) ?_; intro w3 hX3 hB3; have hB3H := Lib.hid hB3; clear hB3))
    all_goals go_end0
    all_goals
      refine ⟨rfl, hB3H.out, _, hX3.out, ?_, fun j hj => ?_, fun j hj => ?_⟩
      · rw [length_splice _ _ _ (by rw [length_splice X 0 c1 (by omega)]; omega), length_splice X 0 c1 (by omega)]
      · rw [splice_at _ _ _ (by rw [length_splice X 0 c1 (by omega)]; omega)]
        by_cases h1 : j < k
        · rw [if_pos h1, splice_at _ _ _ (by omega), if_neg (by omega), if_pos (by omega), hc1H.out]
          exact seg_at x p k j h1
        · rw [if_neg h1, if_pos (by omega), hc2H.out, seg_at _ _ _ _ (by omega)]
          congr 3; omega
      · rw [splice_at _ _ _ (by rw [length_splice X 0 c1 (by omega)]; omega), if_neg (by omega), if_neg (by omega), splice_at _ _ _ (by omega), if_neg (by omega), if_neg (by omega)]

end Go.Proofs.Ytnmcedkinacbpaa
