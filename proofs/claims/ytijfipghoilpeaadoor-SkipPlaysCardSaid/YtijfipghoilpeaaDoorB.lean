/-
  A list of levels in memory: where each level leads, what stands ahead of a place, what turns when a pair comes or goes. Mathematics; no condition.
-/
import Derived.Test.YtijfipghoilpeaaDoorA
namespace Go.Proofs.YtijfipghoilpeaaDoor
open Go.RowKit

/-- A pair in a list: its block, its links' block, itself, in how many levels it stands. -/
structure Nd where
  nb : Nat
  lb : Nat
  x : Sc
  h : Nat
/-- Where a level leads from a place on, and how many ranks on that is. -/
def lnk (L : Nat) : List Nd → Option Addr × Nat
  | [] => (none, 0)
  | n :: s => if L < n.h then (some ⟨n.nb, 0, none⟩, 1) else ((lnk L s).1, (lnk L s).2 + 1)
theorem lnk_low {L : Nat} : ∀ {T : List Nd}, (∀ m ∈ T, ¬ L < m.h) → ∀ X, lnk L (T ++ X) = ((lnk L X).1, (lnk L X).2 + T.length)
  | [], _, X => rfl
  | n :: T, h, X => by
    rw [List.cons_append, lnk, if_neg (h n (List.mem_cons_self ..)), lnk_low (fun m hm => h m (List.mem_cons_of_mem _ hm)) X]
    simp [Nat.add_assoc]
theorem lnk_stop {L : Nat} : ∀ {T : List Nd}, (∃ m ∈ T, L < m.h) → ∀ X Y, lnk L (T ++ X) = lnk L (T ++ Y)
  | [], h, X, Y => by obtain ⟨m, hm, _⟩ := h; simp at hm
  | n :: T, h, X, Y => by
    rw [List.cons_append, List.cons_append, lnk, lnk]
    by_cases hn : L < n.h
    · rw [if_pos hn, if_pos hn]
    · obtain ⟨m, hm, hl⟩ := h
      rcases List.mem_cons.1 hm with rfl | hm
      · exact absurd hl hn
      · rw [if_neg hn, if_neg hn, lnk_stop ⟨m, hm, hl⟩ X Y]
theorem lnk_hit {L : Nat} {n : Nd} (h : L < n.h) (X : List Nd) : lnk L (n :: X) = (some ⟨n.nb, 0, none⟩, 1) := by rw [lnk, if_pos h]
/-- A level ends, or leads to the next pair that stands in it. -/
theorem lnk_case (L : Nat) : ∀ s : List Nd, (lnk L s = (none, s.length) ∧ ∀ m ∈ s, ¬ L < m.h) ∨ ∃ i n, s[i]? = some n ∧ L < n.h ∧ lnk L s = (some ⟨n.nb, 0, none⟩, i + 1) ∧ ∀ j m, j < i → s[j]? = some m → ¬ L < m.h
  | [] => Or.inl ⟨rfl, fun m hm => by simp at hm⟩
  | n :: s => by
    by_cases hn : L < n.h
    · exact Or.inr ⟨0, n, rfl, hn, lnk_hit hn s, fun j m hj => by omega⟩
    · rcases lnk_case L s with ⟨h1, h2⟩ | ⟨i, m, h1, h2, h3, h4⟩
      · refine Or.inl ⟨by rw [lnk, if_neg hn, h1]; rfl, fun m hm => ?_⟩
        rcases List.mem_cons.1 hm with rfl | hm
        · exact hn
        · exact h2 m hm
      · refine Or.inr ⟨i + 1, m, by simpa using h1, h2, by rw [lnk, if_neg hn, h3], fun j u hj hu => ?_⟩
        rcases j with _ | j
        · simp at hu; subst hu; exact hn
        · exact h4 j u (by omega) (by simpa using hu)

/-- How many pairs are gone past in a level when k are ahead. -/
def own (ns : List Nd) (L : Nat) : Nat → Nat
  | 0 => 0
  | k + 1 => match ns[k]? with
    | some n => if L < n.h then k + 1 else own ns L k
    | none => own ns L k
theorem own_le (ns : List Nd) (L : Nat) : ∀ k, own ns L k ≤ k
  | 0 => Nat.le_refl 0
  | k + 1 => by
    have := own_le ns L k
    unfold own
    split
    · split <;> omega
    · omega
theorem own_at (ns : List Nd) (L : Nat) : ∀ k, own ns L k = 0 ∨ ∃ n, ns[own ns L k - 1]? = some n ∧ 0 < own ns L k ∧ L < n.h
  | 0 => Or.inl rfl
  | k + 1 => by
    unfold own
    split
    · next n hn =>
      split
      · next hl => exact Or.inr ⟨n, by simpa using hn, by omega, hl⟩
      · exact own_at ns L k
    · exact own_at ns L k
theorem own_low (ns : List Nd) (L : Nat) : ∀ k i n, own ns L k ≤ i → i < k → ns[i]? = some n → ¬ L < n.h
  | 0, i, n, _, hi, _ => by omega
  | k + 1, i, n, h1, h2, h3 => by
    have ih := own_low ns L k i n
    unfold own at h1
    by_cases hik : i = k
    · subst hik
      rw [h3] at h1
      simp only at h1
      split at h1
      · omega
      · next hl => exact hl
    · refine ih ?_ (by omega) h3
      split at h1
      · next m hm =>
        split at h1
        · omega
        · exact h1
      · exact h1
theorem own_eq {ns : List Nd} {L k q : Nat} (h1 : q ≤ k) (h2 : q = 0 ∨ ∃ n, ns[q - 1]? = some n ∧ 0 < q ∧ L < n.h) (h3 : ∀ i n, q ≤ i → i < k → ns[i]? = some n → ¬ L < n.h) : own ns L k = q := by
  have a1 := own_le ns L k
  have a2 := own_at ns L k
  have a3 := own_low ns L k
  rcases Nat.lt_trichotomy (own ns L k) q with hlt | he | hgt
  · rcases h2 with h2 | ⟨n, hn, hp, hl⟩
    · omega
    · exact absurd hl (a3 (q - 1) n (by omega) (by omega) hn)
  · exact he
  · rcases a2 with a2 | ⟨n, hn, hp, hl⟩
    · omega
    · exact absurd hl (h3 (own ns L k - 1) n (by omega) (by omega) hn)

/-- Who has links in a level: the list itself, or a pair that stands in it; the links' block, and where they begin there. -/
def Ow (D : Nat) (ns : List Nd) (L q b o : Nat) : Prop := (q = 0 ∧ b = D ∧ o = 1) ∨ ∃ n, ns[q - 1]? = some n ∧ 0 < q ∧ L < n.h ∧ b = n.lb ∧ o = 0
/-- The links of who is gone past. -/
def lkb (D : Nat) (ns : List Nd) (q : Nat) : Nat × Nat × Nat := if q = 0 then (D, 1, 16) else match ns[q - 1]? with
  | some n => (n.lb, 0, n.h)
  | none => (0, 0, 0)
def lkV (D : Nat) (ns : List Nd) (q : Nat) : Value := .slice (some ⟨(lkb D ns q).1, (lkb D ns q).2.1, none⟩) (lkb D ns q).2.2 (lkb D ns q).2.2
theorem ow_lkb {D : Nat} {ns : List Nd} {L q b o : Nat} (h : Ow D ns L q b o) : ∃ m, lkb D ns q = (b, o, m) ∧ (L < 16 → L < m) := by
  unfold lkb
  rcases h with ⟨rfl, rfl, rfl⟩ | ⟨n, h1, h2, h3, rfl, rfl⟩
  · exact ⟨16, by rw [if_pos rfl], id⟩
  · exact ⟨n.h, by rw [if_neg (by omega), h1], fun _ => h3⟩
theorem ow_own (D : Nat) (ns : List Nd) (L k : Nat) : ∃ b o, Ow D ns L (own ns L k) b o := by
  rcases own_at ns L k with h | ⟨n, h1, h2, h3⟩
  · exact ⟨D, 1, Or.inl ⟨h, rfl, rfl⟩⟩
  · exact ⟨n.lb, 0, Or.inr ⟨n, h1, h2, h3, rfl, rfl⟩⟩
theorem ow_max {D : Nat} {ns : List Nd} {L q b o k : Nat} (h : Ow D ns L q b o) (hk : q ≤ k) : q ≤ own ns L k := by
  rcases h with ⟨rfl, _, _⟩ | ⟨n, h1, h2, h3, _, _⟩
  · omega
  · rcases Nat.lt_or_ge (own ns L k) q with hlt | hge
    · exact absurd h3 (own_low ns L k (q - 1) n (by omega) (by omega) h1)
    · exact hge

/-- A level as it lies. -/
def LvAt (w : World) (D : Nat) (ns : List Nd) (L : Nat) : Prop := ∀ q b o, Ow D ns L q b o → w.cell? ⟨b, o + 2 * L, none⟩ = some (.pointer (lnk L (ns.drop q)).1) ∧ w.cell? ⟨b, o + 2 * L + 1, none⟩ = some (.int .i64 ((lnk L (ns.drop q)).2 : Nat))
def nodeObj (n : Nd) : Obj := .cells #[.string n.x.1, .int .i64 n.x.2, .slice (some ⟨n.lb, 0, none⟩) n.h n.h] 67 (0, 0)
/-- The blocks of a list, all but the links. -/
structure Base (w : World) (D : Nat) (sd : Int) (cnt : Int) (ns : List Nd) : Prop where
  head : ∃ C, w.heap[D]? = some (.cells C 55 (0, 0)) ∧ C.size = 34 ∧ C[0]? = some (.int .u64 sd) ∧ C[33]? = some (.int .i64 cnt)
  node : ∀ n ∈ ns, w.heap[n.nb]? = some (nodeObj n)
  link : ∀ n ∈ ns, ∃ C, w.heap[n.lb]? = some (.cells C 52 (0, 0)) ∧ C.size = 2 * n.h
  hs : ∀ n ∈ ns, 1 ≤ n.h ∧ n.h ≤ 16
  inj : (ns.map Nd.lb).Nodup
  sep : ∀ n ∈ ns, n.lb ≠ D ∧ n.nb ≠ D ∧ ∀ m ∈ ns, m.lb ≠ n.nb
/-- The blocks that may be written, and all. -/
def wrs (D : Nat) (ns : List Nd) : List Nat := D :: ns.map Nd.lb
def blks (D : Nat) (ns : List Nd) : List Nat := D :: (ns.map Nd.lb ++ ns.map Nd.nb)
theorem wrs_blks {D : Nat} {ns : List Nd} {b : Nat} (h : b ∈ wrs D ns) : b ∈ blks D ns := by
  unfold wrs at h; unfold blks
  rcases List.mem_cons.1 h with rfl | h
  · exact List.mem_cons_self ..
  · exact List.mem_cons_of_mem _ (List.mem_append.2 (Or.inl h))
theorem Base.ow_inj {w : World} {D : Nat} {sd cnt : Int} {ns : List Nd} (h : Base w D sd cnt ns) {L L' q q' b o o' : Nat} (h1 : Ow D ns L q b o) (h2 : Ow D ns L' q' b o') : q = q' ∧ o = o' := by
  rcases h1 with ⟨rfl, rfl, rfl⟩ | ⟨n, a1, a2, a3, rfl, rfl⟩ <;> rcases h2 with ⟨rfl, e, rfl⟩ | ⟨m, b1, b2, b3, e, rfl⟩
  · exact ⟨rfl, rfl⟩
  · exact absurd e.symm (h.sep m (List.mem_of_getElem? b1)).1
  · exact absurd e (h.sep n (List.mem_of_getElem? a1)).1
  · have k1 : (ns.map Nd.lb)[q - 1]? = some n.lb := by simp [a1]
    have k2 : (ns.map Nd.lb)[q' - 1]? = some n.lb := by simp [b1, e]
    obtain ⟨l1, e1⟩ := List.getElem?_eq_some_iff.1 k1
    obtain ⟨l2, e2⟩ := List.getElem?_eq_some_iff.1 k2
    have hp := List.pairwise_iff_getElem.1 h.inj
    rcases Nat.lt_trichotomy (q - 1) (q' - 1) with hlt | he | hgt
    · exact absurd (e1.trans e2.symm) (hp _ _ l1 l2 hlt)
    · exact ⟨by omega, rfl⟩
    · exact absurd (e2.trans e1.symm) (hp _ _ l2 l1 hgt)
theorem Base.ow_mem {w : World} {D : Nat} {sd cnt : Int} {ns : List Nd} (_ : Base w D sd cnt ns) {L q b o : Nat} (h1 : Ow D ns L q b o) : b ∈ wrs D ns := by
  unfold wrs
  rcases h1 with ⟨_, rfl, _⟩ | ⟨n, a1, _, _, rfl, _⟩
  · exact List.mem_cons_self ..
  · exact List.mem_cons_of_mem _ (List.mem_map_of_mem (List.mem_of_getElem? a1))
theorem Base.lt {w : World} {D : Nat} {sd cnt : Int} {ns : List Nd} (h : Base w D sd cnt ns) {b : Nat} (hb : b ∈ blks D ns) : b < w.heap.size := by
  unfold blks at hb
  rcases List.mem_cons.1 hb with rfl | hb
  · obtain ⟨C, hC, _⟩ := h.head
    exact some_lt hC
  · rcases List.mem_append.1 hb with hb | hb
    · obtain ⟨n, hn, rfl⟩ := List.mem_map.1 hb
      obtain ⟨C, hC, _⟩ := h.link n hn
      exact some_lt hC
    · obtain ⟨n, hn, rfl⟩ := List.mem_map.1 hb
      exact some_lt (h.node n hn)
theorem Base.keep {w w' : World} {D : Nat} {sd cnt : Int} {ns : List Nd} (h : Base w D sd cnt ns) {O : List Nat} (ho : Only O w w') (hd : ∀ b ∈ blks D ns, b ∉ O) : Base w' D sd cnt ns := by
  have m1 : ∀ n ∈ ns, n.lb ∈ blks D ns := fun n hn => List.mem_cons_of_mem _ (List.mem_append.2 (Or.inl (List.mem_map_of_mem hn)))
  have m2 : ∀ n ∈ ns, n.nb ∈ blks D ns := fun n hn => List.mem_cons_of_mem _ (List.mem_append.2 (Or.inr (List.mem_map_of_mem hn)))
  refine ⟨?_, fun n hn => ho.keep (h.node n hn) (hd _ (m2 n hn)), fun n hn => ?_, h.hs, h.inj, h.sep⟩
  · obtain ⟨C, h1, h2⟩ := h.head
    exact ⟨C, ho.keep h1 (hd _ (List.mem_cons_self ..)), h2⟩
  · obtain ⟨C, h1, h2⟩ := h.link n hn
    exact ⟨C, ho.keep h1 (hd _ (m1 n hn)), h2⟩
theorem LvAt.keep {w w' : World} {D : Nat} {ns : List Nd} {L : Nat} (h : LvAt w D ns L) (hk : ∀ q b o, Ow D ns L q b o → w'.cell? ⟨b, o + 2 * L, none⟩ = w.cell? ⟨b, o + 2 * L, none⟩ ∧ w'.cell? ⟨b, o + 2 * L + 1, none⟩ = w.cell? ⟨b, o + 2 * L + 1, none⟩) : LvAt w' D ns L := fun q b o hq => by
  obtain ⟨h1, h2⟩ := h q b o hq
  obtain ⟨k1, k2⟩ := hk q b o hq
  exact ⟨k1.trans h1, k2.trans h2⟩
theorem Base.lv {w w' : World} {D : Nat} {sd cnt : Int} {ns : List Nd} (h : Base w D sd cnt ns) {O : List Nat} (ho : Only O w w') (hd : ∀ b ∈ wrs D ns, b ∉ O) {L : Nat} (hl : LvAt w D ns L) : LvAt w' D ns L :=
  hl.keep fun q b o hq => by
    have hb := h.ow_mem hq
    have := ho.2 b (h.lt (wrs_blks hb)) (hd b hb)
    exact ⟨World.cell?_of_block (w := w) (a := ⟨b, _, none⟩) this, World.cell?_of_block (w := w) (a := ⟨b, _, none⟩) this⟩
/-- A link is written. -/
theorem Base.set {w : World} {D : Nat} {sd cnt : Int} {ns : List Nd} (h : Base w D sd cnt ns) {b off : Nat} (hb : (b = D ∧ 0 < off ∧ off < 33) ∨ ∃ n ∈ ns, b = n.lb) (v : Value) : Base (w.setCell ⟨b, off, none⟩ v) D sd cnt ns := by
  have hnb : ∀ n ∈ ns, n.nb ≠ b := fun n hn e => by
    rcases hb with ⟨rfl, _⟩ | ⟨m, hm, rfl⟩
    · exact (h.sep n hn).2.1 e
    · exact (h.sep n hn).2.2 m hm e.symm
  refine ⟨?_, fun n hn => ?_, fun n hn => ?_, h.hs, h.inj, h.sep⟩
  · obtain ⟨C, h1, h2, h3, h4⟩ := h.head
    rcases hb with ⟨rfl, b1, b2⟩ | ⟨m, hm, rfl⟩
    · refine ⟨_, Joins.block_setCell h1 v, by simpa using h2, ?_, ?_⟩
      · rw [Array.getElem?_setIfInBounds_ne (by omega)]; exact h3
      · rw [Array.getElem?_setIfInBounds_ne (by omega)]; exact h4
    · exact ⟨C, by rw [Below.heap_setCell _ _ _ _ (fun e => (h.sep m hm).1 e.symm)]; exact h1, h2, h3, h4⟩
  · rw [Below.heap_setCell _ _ _ _ (hnb n hn)]
    exact h.node n hn
  · obtain ⟨C, h1, h2⟩ := h.link n hn
    by_cases e : n.lb = b
    · subst e
      exact ⟨_, Joins.block_setCell h1 v, by simpa using h2⟩
    · exact ⟨C, by rw [Below.heap_setCell _ _ _ _ e]; exact h1, h2⟩
/-- The count is written. -/
theorem Base.count {w : World} {D : Nat} {sd cnt : Int} {ns : List Nd} (h : Base w D sd cnt ns) (c : Int) : Base (w.setCell ⟨D, 33, none⟩ (.int .i64 c)) D sd c ns := by
  refine ⟨?_, fun n hn => ?_, fun n hn => ?_, h.hs, h.inj, h.sep⟩
  · obtain ⟨C, h1, h2, h3, h4⟩ := h.head
    refine ⟨_, Joins.block_setCell h1 _, by simpa using h2, ?_, ?_⟩
    · rw [Array.getElem?_setIfInBounds_ne (by omega)]; exact h3
    · rw [Array.getElem?_setIfInBounds_self_of_lt (by omega)]
  · rw [Below.heap_setCell _ _ _ _ (h.sep n hn).2.1]
    exact h.node n hn
  · obtain ⟨C, h1, h2⟩ := h.link n hn
    exact ⟨C, by rw [Below.heap_setCell _ _ _ _ (h.sep n hn).1]; exact h1, h2⟩
theorem Base.ow_free {w : World} {D : Nat} {sd cnt : Int} {ns : List Nd} (h : Base w D sd cnt ns) {L q b o : Nat} (h1 : Ow D ns L q b o) (i : Nat) : w.frozen? ⟨b, i, none⟩ = false := by
  rcases h1 with ⟨_, rfl, _⟩ | ⟨n, a1, _, _, rfl, _⟩
  · obtain ⟨C, hC, _⟩ := h.head
    simp [World.frozen?, hC]
  · obtain ⟨C, hC, _⟩ := h.link n (List.mem_of_getElem? a1)
    simp [World.frozen?, hC]
theorem Base.node_cells {w : World} {D : Nat} {sd cnt : Int} {ns : List Nd} (h : Base w D sd cnt ns) {n : Nd} (hn : n ∈ ns) :
    w.cell? ⟨n.nb, 0, none⟩ = some (.string n.x.1) ∧ w.cell? ⟨n.nb, 1, none⟩ = some (.int .i64 n.x.2) ∧ w.cell? ⟨n.nb, 2, none⟩ = some (.slice (some ⟨n.lb, 0, none⟩) n.h n.h) := by
  have hk := h.node n hn
  unfold nodeObj at hk
  exact ⟨Lib.cell_of_heap hk 0, Lib.cell_of_heap hk 1, Lib.cell_of_heap hk 2⟩
theorem Base.head_cells {w : World} {D : Nat} {sd cnt : Int} {ns : List Nd} (h : Base w D sd cnt ns) :
    w.cell? ⟨D, 0, none⟩ = some (.int .u64 sd) ∧ w.cell? ⟨D, 33, none⟩ = some (.int .i64 cnt) ∧ w.frozen? ⟨D, 33, none⟩ = false := by
  obtain ⟨C, h1, h2, h3, h4⟩ := h.head
  refine ⟨?_, ?_, by simp [World.frozen?, h1]⟩ <;> simp [World.cell?, h1, h3, h4]

/-- A pair comes behind the first k. -/
def ins (M : List Nd) (k : Nat) (n : Nd) : List Nd := M.take k ++ n :: M.drop k
theorem ins_len {M : List Nd} {k : Nat} (hk : k ≤ M.length) (n : Nd) : (ins M k n).length = M.length + 1 := by unfold ins; simp; omega
theorem ins_get {M : List Nd} {k : Nat} (hk : k ≤ M.length) (n : Nd) (i : Nat) : (ins M k n)[i]? = if i < k then M[i]? else if i = k then some n else M[i - 1]? := by
  unfold ins
  have hl : (M.take k).length = k := by simp; omega
  by_cases h1 : i < k
  · rw [if_pos h1, List.getElem?_append_left (by omega), List.getElem?_take, if_pos h1]
  · rw [if_neg h1, List.getElem?_append_right (by omega), hl]
    by_cases h2 : i = k
    · subst h2; simp
    · rw [if_neg h2]
      obtain ⟨j, rfl⟩ : ∃ j, i = k + 1 + j := ⟨i - k - 1, by omega⟩
      rw [show k + 1 + j - k = j + 1 by omega, List.getElem?_cons_succ, List.getElem?_drop]
      congr 1; omega
theorem ins_drop_le {M : List Nd} {k : Nat} (hk : k ≤ M.length) (n : Nd) {q : Nat} (hq : q ≤ k) : (ins M k n).drop q = (M.take k).drop q ++ n :: M.drop k := by
  unfold ins
  rw [List.drop_append_of_le_length (by simp; omega)]
theorem drop_split {M : List Nd} {k q : Nat} (hq : q ≤ k) (hk : k ≤ M.length) : M.drop q = (M.take k).drop q ++ M.drop k := by
  conv => lhs; rw [← List.take_append_drop k M]
  rw [List.drop_append_of_le_length (by simp; omega)]
theorem ins_drop_gt {M : List Nd} {k : Nat} (hk : k ≤ M.length) (n : Nd) {q : Nat} (hq : k < q) : (ins M k n).drop q = M.drop (q - 1) := by
  unfold ins
  have hl : (M.take k).length = k := by simp; omega
  obtain ⟨j, rfl⟩ : ∃ j, q = k + 1 + j := ⟨q - k - 1, by omega⟩
  rw [List.drop_append, List.drop_eq_nil_of_le (by omega), List.nil_append, hl, show k + 1 + j - k = j + 1 by omega, List.drop_succ_cons, List.drop_drop]
  congr 1; omega
theorem ow_ins {D : Nat} {M : List Nd} {k : Nat} (hk : k ≤ M.length) {n : Nd} {L q b o : Nat} : Ow D (ins M k n) L q b o ↔ (q ≤ k ∧ Ow D M L q b o) ∨ (q = k + 1 ∧ L < n.h ∧ b = n.lb ∧ o = 0) ∨ (k + 1 < q ∧ Ow D M L (q - 1) b o) := by
  unfold Ow
  constructor
  · rintro (⟨rfl, h1, h2⟩ | ⟨m, h1, h2, h3, h4, h5⟩)
    · exact Or.inl ⟨by omega, Or.inl ⟨rfl, h1, h2⟩⟩
    · rw [ins_get hk] at h1
      split at h1
      · exact Or.inl ⟨by omega, Or.inr ⟨m, h1, h2, h3, h4, h5⟩⟩
      · split at h1
        · cases h1
          exact Or.inr (Or.inl ⟨by omega, h3, h4, h5⟩)
        · exact Or.inr (Or.inr ⟨by omega, Or.inr ⟨m, h1, by omega, h3, h4, h5⟩⟩)
  · rintro (⟨h0, h1⟩ | ⟨rfl, h1, h2, h3⟩ | ⟨h0, h1⟩)
    · rcases h1 with h1 | ⟨m, h1, h2, h3⟩
      · exact Or.inl h1
      · refine Or.inr ⟨m, ?_, h2, h3⟩
        rw [ins_get hk, if_pos (by omega)]; exact h1
    · refine Or.inr ⟨n, ?_, by omega, h1, h2, h3⟩
      rw [ins_get hk, if_neg (by omega), if_pos (by omega)]
    · rcases h1 with ⟨h1, _⟩ | ⟨m, h1, h2, h3⟩
      · omega
      · refine Or.inr ⟨m, ?_, by omega, h3⟩
        rw [ins_get hk, if_neg (by omega), if_neg (by omega)]; exact h1
theorem own_ins {M : List Nd} {k : Nat} (hk : k ≤ M.length) (n : Nd) (L : Nat) : own (ins M k n) L k = own M L k := by
  have hle := own_le M L k
  refine own_eq hle ?_ (fun i m h1 h2 h3 => ?_)
  · rcases own_at M L k with h | ⟨m, h1, h2, h3⟩
    · exact Or.inl h
    · exact Or.inr ⟨m, by rw [ins_get hk, if_pos (by omega)]; exact h1, h2, h3⟩
  · rw [ins_get hk, if_pos h2] at h3
    exact own_low M L k i m h1 h2 h3
theorem own_mem_low {M : List Nd} {k L : Nat} : ∀ m ∈ (M.take k).drop (own M L k), ¬ L < m.h := by
  intro m hm
  obtain ⟨i, hi⟩ := List.getElem?_of_mem hm
  rw [List.getElem?_drop, List.getElem?_take] at hi
  split at hi
  · exact own_low M L k _ m (by omega) (by assumption) hi
  · cases hi
theorem own_stop {M : List Nd} {k L q : Nat} (hq : q < own M L k) : ∃ m ∈ (M.take k).drop q, L < m.h := by
  have hle := own_le M L k
  rcases own_at M L k with h | ⟨m, h1, h2, h3⟩
  · omega
  · refine ⟨m, List.mem_of_getElem? (i := own M L k - 1 - q) ?_, h3⟩
    rw [List.getElem?_drop, List.getElem?_take, if_pos (by omega), show q + (own M L k - 1 - q) = own M L k - 1 by omega]
    exact h1
theorem low_len {M : List Nd} {k q : Nat} (hk : k ≤ M.length) : ((M.take k).drop q).length = k - q := by simp; omega
theorem lnk_before {M : List Nd} {k L q : Nat} (hk : k ≤ M.length) (n : Nd) (hq : q < own M L k) : lnk L ((ins M k n).drop q) = lnk L (M.drop q) := by
  have hle := own_le M L k
  rw [ins_drop_le hk n (by omega), drop_split (q := q) (by omega) hk]
  exact lnk_stop (own_stop hq) _ _
theorem lnk_own {M : List Nd} {k L : Nat} (hk : k ≤ M.length) : lnk L (M.drop (own M L k)) = ((lnk L (M.drop k)).1, (lnk L (M.drop k)).2 + (k - own M L k)) := by
  rw [drop_split (own_le M L k) hk, lnk_low (own_mem_low), low_len hk]
theorem lnk_own_hit {M : List Nd} {k L : Nat} (hk : k ≤ M.length) {n : Nd} (hn : L < n.h) : lnk L ((ins M k n).drop (own M L k)) = (some ⟨n.nb, 0, none⟩, k - own M L k + 1) := by
  rw [ins_drop_le hk n (own_le M L k), lnk_low (own_mem_low), low_len hk, lnk_hit hn]
  simp only [Prod.mk.injEq, true_and]; omega
theorem lnk_own_miss {M : List Nd} {k L : Nat} (hk : k ≤ M.length) {n : Nd} (hn : ¬ L < n.h) : lnk L ((ins M k n).drop (own M L k)) = ((lnk L (M.drop (own M L k))).1, (lnk L (M.drop (own M L k))).2 + 1) := by
  rw [ins_drop_le hk n (own_le M L k), lnk_low (own_mem_low), low_len hk, lnk_own hk, lnk, if_neg hn]
  simp only [Prod.mk.injEq, true_and]; omega
end Go.Proofs.YtijfipghoilpeaaDoor
