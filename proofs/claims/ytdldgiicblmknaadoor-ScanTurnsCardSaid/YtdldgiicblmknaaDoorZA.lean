/-
  How the document's table lies in memory: its head, its rows of places, its chains; what writes leave as it was. Mathematics; no condition.
-/
import Derived.Test.YtdldgiicblmknaaDoorSM
import Derived.Test.YtdldgiicblmknaaDoorTA
import Derived.Deep.Cut
import Derived.Test.YtdldgiicblmknaaDoorHS
import Derived.Test.YtdldgiicblmknaaDoorZB
import Derived.Deep.AppendLies
import Derived.Deep.RegionLaw

namespace Go.Proofs.YtdldgiicblmknaaDoor
open Go.RowKit

/-- A block of the document's table: by its type. -/
def isRef : Option Obj → Bool
  | some (.cells _ t _) => t == 80 || t == 78 || t == 31
  | _ => false
def refs (w : World) : List Nat := (List.range w.heap.size).filter fun k => isRef w.heap[k]?
theorem mem_refs {w : World} {k : Nat} : k ∈ refs w ↔ isRef w.heap[k]? = true := by
  unfold refs
  rw [List.mem_filter, List.mem_range]
  refine ⟨fun h => h.2, fun h => ⟨?_, h⟩⟩
  rcases Nat.lt_or_ge k w.heap.size with h1 | h1
  · exact h1
  · rw [Array.getElem?_eq_none h1] at h; cases h
/-- Only blocks of the document's tables are written, and new ones. -/
structure RO (B : Nat) (w w' : World) : Prop where
  only : Only (refs w) w w'
  below : Below B w w'
theorem RO.refl (B : Nat) (w : World) : RO B w w := ⟨Only.refl _ _, Below.refl _ _⟩
theorem RO.back {B : Nat} {a w : World} (h : RO B a w) {k : Nat} (hk : isRef w.heap[k]? = true) : k ∈ refs a ∨ a.heap.size ≤ k := by
  rcases Nat.lt_or_ge k a.heap.size with h1 | h1
  · left
    by_cases hm : k ∈ refs a
    · exact hm
    · have := h.only.2 k h1 hm
      rw [this] at hk
      exact mem_refs.2 hk
  · exact Or.inr h1
theorem RO.trans {B : Nat} {a b c : World} (h : RO B a b) (k : RO B b c) : RO B a c :=
  ⟨h.only.trans k.only (fun _ hx => h.back (mem_refs.1 hx)), h.below.trans k.below⟩
theorem RO.set {B : Nat} {a w : World} (h : RO B a w) {p : Addr} (hp : B ≤ p.block) (hr : isRef w.heap[p.block]? = true) (v : Value) : RO B a (w.setCell p v) :=
  ⟨h.only.set (h.back hr) v, h.below.setCell hp v⟩
theorem RO.alloc {B : Nat} {a w : World} (h : RO B a w) (hB : B ≤ w.heap.size) (o : Obj) : RO B a (w.alloc o) := ⟨h.only.alloc o, h.below.alloc hB o⟩
theorem RO.drewN {B : Nat} {a w : World} (h : RO B a w) (n : Nat) : RO B a (w.drewN n) := ⟨h.only.drewN n, below_drewN h.below n⟩
theorem RO.grown {B : Nat} {a w w' : World} (h : RO B a w) {row : Option Nat} (hg : w.grownBy w' row) (hB : B ≤ w.heap.size) (hr : ∀ k, row = some k → B ≤ k ∧ isRef w.heap[k]? = true) : RO B a w' :=
  h.trans ⟨(grown_only hg).mono (fun x hx => mem_refs.2 (hr x (by simpa using hx)).2), (Below.refl B w).grown hg hB (fun k hk => (hr k hk).1)⟩
/-- Blocks of the document's tables are as they were. -/
def RSame (w w' : World) : Prop := ∀ k : Nat, isRef w.heap[k]? = true → w'.heap[k]? = w.heap[k]?
theorem RSame.refl (w : World) : RSame w w := fun _ _ => rfl
theorem RSame.trans {a b c : World} (h : RSame a b) (k : RSame b c) : RSame a c := fun x hx => by
  have h1 := h x hx
  rw [k x (by rw [h1]; exact hx), h1]
theorem rsame_below {w w' : World} (h : Below w.heap.size w w') : RSame w w' := fun k hk => by
  rcases Nat.lt_or_ge k w.heap.size with h1 | h1
  · exact h.block k h1
  · rw [Array.getElem?_eq_none h1] at hk; cases hk
theorem rsame_only {w w' : World} {O : List Nat} (h : Only O w w') (hO : ∀ k ∈ O, isRef w.heap[k]? = false) : RSame w w' := fun k hk => by
  rcases Nat.lt_or_ge k w.heap.size with h1 | h1
  · exact h.2 k h1 (fun hm => by rw [hO k hm] at hk; cases hk)
  · rw [Array.getElem?_eq_none h1] at hk; cases hk
theorem rsame_drewN (w : World) (n : Nat) : RSame w (w.drewN n) := fun _ _ => rfl
/-- A table of the program's has no such blocks. -/
theorem here_not_ref {X : Tb} {w : World} (h : Here X w) : ∀ k ∈ X.blocks, isRef w.heap[k]? = false := by
  intro k hk
  rw [← objs_fst] at hk
  obtain ⟨q, hq, rfl⟩ := List.mem_map.1 hk
  rw [h.at_ q hq]
  rw [objs_iff] at hq
  have hch : ∀ (L : List En), q ∈ chObjs L → isRef (some q.2) = false := by
    intro L
    induction L with
    | nil => intro hm; cases hm
    | cons e L ih =>
      intro hm
      rcases List.mem_cons.1 hm with rfl | hm
      · rfl
      · exact ih hm
  rcases hq with rfl | ⟨b, _, rfl⟩ | ⟨b, _, rfl⟩ | ⟨c, _, hq⟩ | ⟨c, _, hq⟩ | hq
  · rfl
  · rfl
  · rfl
  · exact hch c hq
  · exact hch c hq
  · exact hch _ hq
/-- A program's table stays, whatever is done to the document's. -/
theorem Ok.ref {B : Nat} {X : Tb} {w w' : World} (h : Ok B X w) (hr : RO B w w') : Ok B X w' := by
  have hpos := h.live.pos
  have ho : Only ((refs w).filter fun k => decide (B ≤ k)) w w' := ⟨hr.only.1, fun k hk hn => by
    by_cases hm : k ∈ refs w
    · exact hr.below.block k (by
        rcases Nat.lt_or_ge k B with h1 | h1
        · exact h1
        · exact absurd (List.mem_filter.2 ⟨hm, by simpa using h1⟩) hn)
    · exact hr.only.2 k hk hm⟩
  refine h.on ho (fun x hx hm => ?_) (fun h0 => ?_)
  · have := mem_refs.1 (List.mem_filter.1 hx).1
    rw [here_not_ref h.live.here x hm] at this; cases this
  · have := (List.mem_filter.1 h0).2
    simp at this; omega

theorem own_set {w : World} {B : Nat} {e : TypeId} {size : Nat} {v : Value} {n : Nat} {xs : List Value} (h : w.ownsRow B e size v n xs) {g : Nat} (hg : v.ownBlock = some g) (i : Nat) (x : Value) :
    (w.setCell ⟨g, i, none⟩ x).ownsRow B e size v n (xs.set i x) := by
  obtain ⟨h1, ⟨rfl, _⟩ | ⟨g', cap, cur, rfl, h3, h4, h5, h6, h7, h8⟩⟩ := h
  · cases hg
  · cases hg
    refine ⟨by rw [List.length_set]; exact h1, Or.inr ⟨g', cap, cur.setIfInBounds i x, rfl, h3, ?_, h5, h6, by simpa using h7, ?_⟩⟩
    · simp [World.setCell, Array.getElem?_modify, h4]
    · rw [Array.toList_setIfInBounds, List.take_set, h8]
theorem own_far {w w' : World} {B : Nat} {e : TypeId} {size : Nat} {v : Value} {n : Nat} {xs : List Value} (h : w.ownsRow B e size v n xs) (hk : ∀ k, v.ownBlock = some k → w'.heap[k]? = w.heap[k]?) : w'.ownsRow B e size v n xs := by
  obtain ⟨h1, ⟨rfl, h2⟩ | ⟨g', cap, cur, rfl, h3, h4, h5⟩⟩ := h
  · exact ⟨h1, Or.inl ⟨rfl, h2⟩⟩
  · exact ⟨h1, Or.inr ⟨g', cap, cur, rfl, h3, by rw [hk g' rfl]; exact h4, h5⟩⟩
theorem own_type {w : World} {B : Nat} {e : TypeId} {size : Nat} {v : Value} {n : Nat} {xs : List Value} (h : w.ownsRow B e size v n xs) {k : Nat} (hk : v.ownBlock = some k) : B ≤ k ∧ k < w.heap.size ∧ ∃ cur, w.heap[k]? = some (.cells cur e (0, 0)) := by
  obtain ⟨h1, ⟨rfl, h2⟩ | ⟨g', cap, cur, rfl, h3, h4, h5⟩⟩ := h
  · cases hk
  · cases hk
    exact ⟨h3, some_lt h4, cur, h4⟩

/-- Keys and numbers, one behind the other. -/
def KX (xs : List Value) (c : List ByteArray) : Prop := ∀ (j : Nat) (k : ByteArray), c[j]? = some k → xs[2 * j]? = some (.string k) ∧ ∃ v, xs[2 * j + 1]? = some (.int .i64 v)
/-- A chain of the document's. -/
def Ch (B : Nat) (w : World) (u : Value) (c : List ByteArray) : Prop := ∃ xs, w.ownsRow B 80 2 u c.length xs ∧ KX xs c
/-- A row of places. -/
def Rw (B : Nat) (w : World) (v : Value) (l : List (List ByteArray)) : Prop := ∃ vs : List Value, w.ownsRow B 78 1 v l.length vs ∧ ∀ (i : Nat) (c : List ByteArray), l[i]? = some c → ∃ u, vs[i]? = some u ∧ Ch B w u c
theorem Ch.nil (B : Nat) (w : World) : Ch B w (.slice none 0 0) [] := ⟨[], World.ownsRow_nil w B _ 2, fun j k h => by simp at h⟩
theorem Ch.far {B : Nat} {w w' : World} {u : Value} {c : List ByteArray} (h : Ch B w u c) (hk : ∀ k, u.ownBlock = some k → w'.heap[k]? = w.heap[k]?) : Ch B w' u c := by
  obtain ⟨xs, h1, h2⟩ := h
  exact ⟨xs, own_far h1 hk, h2⟩
theorem Ch.same {B : Nat} {w w' : World} {u : Value} {c : List ByteArray} (h : Ch B w u c) (hs : RSame w w') : Ch B w' u c :=
  h.far fun k hk => hs k (by obtain ⟨xs, h1, _⟩ := h; obtain ⟨_, _, cur, hc⟩ := own_type h1 hk; rw [hc]; rfl)
theorem Rw.same {B : Nat} {w w' : World} {v : Value} {l : List (List ByteArray)} (h : Rw B w v l) (hs : RSame w w') : Rw B w' v l := by
  obtain ⟨vs, h1, h2⟩ := h
  refine ⟨vs, own_far h1 (fun k hk => hs k (by obtain ⟨_, _, cur, hc⟩ := own_type h1 hk; rw [hc]; rfl)), fun i c hc => ?_⟩
  obtain ⟨u, h3, h4⟩ := h2 i c hc
  exact ⟨u, h3, h4.same hs⟩
/-- A number in a chain is set: the keys stay, of each chain. -/
theorem Ch.setV {B : Nat} {w : World} {u : Value} {c : List ByteArray} (h : Ch B w u c) (g j : Nat) (v : Int) : Ch B (w.setCell ⟨g, 2 * j + 1, none⟩ (.int .i64 v)) u c := by
  by_cases hg : u.ownBlock = some g
  · obtain ⟨xs, h1, h2⟩ := h
    refine ⟨_, own_set h1 hg _ _, fun i k hk => ?_⟩
    obtain ⟨h3, v', h4⟩ := h2 i k hk
    refine ⟨by rw [List.getElem?_set_ne (by omega)]; exact h3, ?_⟩
    by_cases hij : i = j
    · subst hij
      have hlt := (List.getElem?_eq_some_iff.1 h4).1
      exact ⟨v, by rw [List.getElem?_set_self hlt]⟩
    · exact ⟨v', by rw [List.getElem?_set_ne (by omega)]; exact h4⟩
  · exact h.far fun k hk => Below.heap_setCell _ _ _ _ (fun e => hg (by rw [hk, e]))
/-- A block that is no chain is written. -/
theorem Ch.setFar {B : Nat} {w : World} {u : Value} {c : List ByteArray} (h : Ch B w u c) {p : Addr} {cs : Array Value} {t : TypeId} {fz : Nat × Nat} (hp : w.heap[p.block]? = some (.cells cs t fz)) (ht : t ≠ 80) (v : Value) : Ch B (w.setCell p v) u c :=
  h.far fun k hk => Below.heap_setCell _ _ _ _ (fun e => by
    obtain ⟨xs, h1, _⟩ := h
    obtain ⟨_, _, cur, hc⟩ := own_type h1 hk
    rw [e, hp] at hc
    cases hc; exact ht rfl)
theorem Rw.setV {B : Nat} {w : World} {v : Value} {l : List (List ByteArray)} (h : Rw B w v l) {g : Nat} {cs : Array Value} {fz : Nat × Nat} (hg : w.heap[g]? = some (.cells cs 80 fz)) (j : Nat) (x : Int) : Rw B (w.setCell ⟨g, 2 * j + 1, none⟩ (.int .i64 x)) v l := by
  obtain ⟨vs, h1, h2⟩ := h
  refine ⟨vs, own_far h1 (fun k hk => Below.heap_setCell _ _ _ _ (fun e => ?_)), fun i c hc => ?_⟩
  · obtain ⟨_, _, cur, hc⟩ := own_type h1 hk
    rw [e, hg] at hc
    cases hc
  · obtain ⟨u, h3, h4⟩ := h2 i c hc
    exact ⟨u, h3, h4.setV g j x⟩
theorem Rw.setFar {B : Nat} {w : World} {v : Value} {l : List (List ByteArray)} (h : Rw B w v l) {p : Addr} {cs : Array Value} {t : TypeId} {fz : Nat × Nat} (hp : w.heap[p.block]? = some (.cells cs t fz)) (ht : t ≠ 80) (hne : v.ownBlock ≠ some p.block) (x : Value) : Rw B (w.setCell p x) v l := by
  obtain ⟨vs, h1, h2⟩ := h
  refine ⟨vs, own_far h1 (fun k hk => Below.heap_setCell _ _ _ _ (fun e => hne (by rw [hk, e]))), fun i c hc => ?_⟩
  obtain ⟨u, h3, h4⟩ := h2 i c hc
  exact ⟨u, h3, h4.setFar hp ht x⟩
/-- Another chain at a place. -/
theorem Rw.put {B : Nat} {w : World} {v : Value} {l : List (List ByteArray)} (h : Rw B w v l) {g : Nat} (hg : v.ownBlock = some g) (i : Nat) {u : Value} {c : List ByteArray} (hc : Ch B w u c) : Rw B (w.setCell ⟨g, i, none⟩ u) v (l.set i c) := by
  obtain ⟨vs, h1, h2⟩ := h
  obtain ⟨_, _, cur, hcur⟩ := own_type h1 hg
  have hne : 78 ≠ 80 := by decide
  refine ⟨vs.set i u, by rw [List.length_set]; exact own_set h1 hg i u, fun j d hd => ?_⟩
  by_cases hij : i = j
  · subst hij
    have hlt : i < l.length := by have := (List.getElem?_eq_some_iff.1 hd).1; simpa using this
    rw [List.getElem?_set_self hlt] at hd
    cases hd
    have hvl : vs.length = l.length := by have := h1.1; omega
    exact ⟨u, by rw [List.getElem?_set_self (by omega)], hc.setFar (p := ⟨g, i, none⟩) hcur hne u⟩
  · rw [List.getElem?_set_ne hij] at hd
    obtain ⟨u', h3, h4⟩ := h2 j d hd
    exact ⟨u', by rw [List.getElem?_set_ne hij]; exact h3, h4.setFar (p := ⟨g, i, none⟩) hcur hne u⟩
/-- What a place's cell holds. -/
theorem Rw.cell {B : Nat} {w : World} {v : Value} {l : List (List ByteArray)} (h : Rw B w v l) {i : Nat} (hi : i < l.length) : ∃ g cap u cur, v = .slice (some ⟨g, 0, none⟩) l.length cap ∧ B ≤ g ∧ g < w.heap.size ∧ w.heap[g]? = some (.cells cur 78 (0, 0)) ∧ w.cell? ⟨g, i, none⟩ = some u ∧ Ch B w u (l.getD i []) := by
  obtain ⟨vs, h1, h2⟩ := h
  have hd : l[i]? = some (l.getD i []) := by simp [hi]
  obtain ⟨u, h3, h4⟩ := h2 i _ hd
  have h1' := h1
  obtain ⟨k1, ⟨rfl, k2⟩ | ⟨g, cap, cur, rfl, k3, k4, k5, k6, k7, k8⟩⟩ := h1
  · omega
  · refine ⟨g, cap, u, cur, rfl, k3, some_lt k4, k4, ?_, h4⟩
    have := World.ownsRow.cellAt h1' i (by omega)
    rw [this, h3]
theorem Rw.len {B : Nat} {w : World} {v : Value} {l : List (List ByteArray)} (h : Rw B w v l) : ∃ (A : Option Addr) (cap : Nat), v = .slice A l.length cap := by
  obtain ⟨vs, ⟨k1, ⟨rfl, k2⟩ | ⟨g, cap, cur, rfl, _⟩⟩, _⟩ := h
  · exact ⟨none, 0, by rw [k2]⟩
  · exact ⟨_, _, rfl⟩
theorem Ch.len {B : Nat} {w : World} {u : Value} {c : List ByteArray} (h : Ch B w u c) : ∃ (A : Option Addr) (cap : Nat), u = .slice A c.length cap := by
  obtain ⟨vs, ⟨k1, ⟨rfl, k2⟩ | ⟨g, cap, cur, rfl, _⟩⟩, _⟩ := h
  · exact ⟨none, 0, by rw [k2]⟩
  · exact ⟨_, _, rfl⟩
/-- What a key's cells hold. -/
theorem Ch.cell {B : Nat} {w : World} {u : Value} {c : List ByteArray} (h : Ch B w u c) {j : Nat} {k : ByteArray} (hj : c[j]? = some k) : ∃ g cap cur v, u = .slice (some ⟨g, 0, none⟩) c.length cap ∧ B ≤ g ∧ g < w.heap.size ∧ w.heap[g]? = some (.cells cur 80 (0, 0)) ∧ w.cell? ⟨g, 2 * j, none⟩ = some (.string k) ∧ w.cell? ⟨g, 2 * j + 1, none⟩ = some (.int .i64 v) := by
  obtain ⟨xs, h1, h2⟩ := h
  have hlt : j < c.length := (List.getElem?_eq_some_iff.1 hj).1
  obtain ⟨h3, v, h4⟩ := h2 j k hj
  have h1' := h1
  obtain ⟨k1, ⟨rfl, k2⟩ | ⟨g, cap, cur, rfl, k3, k4, k5, k6, k7, k8⟩⟩ := h1
  · omega
  · refine ⟨g, cap, cur, v, rfl, k3, some_lt k4, k4, ?_, ?_⟩
    · rw [World.ownsRow.cellAt h1' (2 * j) (by omega), h3]
    · rw [World.ownsRow.cellAt h1' (2 * j + 1) (by omega), h4]
theorem KX.append {xs ys : List Value} {c d : List ByteArray} (hl : xs.length = 2 * c.length) (h : KX xs c) (k : KX ys d) : KX (xs ++ ys) (c ++ d) := by
  intro j x hx
  rcases Nat.lt_or_ge j c.length with hj | hj
  · rw [List.getElem?_append_left hj] at hx
    obtain ⟨h3, v, h4⟩ := h j x hx
    exact ⟨by rw [List.getElem?_append_left (by omega)]; exact h3, v, by rw [List.getElem?_append_left (by omega)]; exact h4⟩
  · rw [List.getElem?_append_right hj] at hx
    obtain ⟨h3, v, h4⟩ := k _ x hx
    refine ⟨?_, v, ?_⟩
    · rw [List.getElem?_append_right (by omega), ← h3]; congr 1; omega
    · rw [List.getElem?_append_right (by omega), ← h4]; congr 1; omega

end Go.Proofs.YtdldgiicblmknaaDoor

/-
  The document's table as a whole in memory; the walks of its logarithms, of a key's place, of a key's index. A table's shape; the bounds that Go's own numbers have.
-/
namespace Go.Proofs.YtdldgiicblmknaaDoor
open Go.RowKit

/-- The document's table: keys alone. -/
structure KT where
  seed : Int
  old : List (List ByteArray)
  new : List (List ByteArray)
  moved : Int
structure RAt (B T : Nat) (t : KT) (vo vn : Value) (w : World) : Prop where
  head : w.heap[T]? = some (.cells #[.int .u64 t.seed, vo, vn, .int .i64 t.moved] 31 (0, 0))
  le : B ≤ T
  pos : B ≤ w.heap.size
  old : Rw B w vo t.old
  new : Rw B w vn t.new
  sep : ∀ k, vo.ownBlock = some k → vn.ownBlock ≠ some k
theorem RAt.same {B T : Nat} {t : KT} {vo vn : Value} {w w' : World} (h : RAt B T t vo vn w) (hs : RSame w w') (hl : B ≤ w'.heap.size) : RAt B T t vo vn w' :=
  ⟨by rw [hs T (by rw [h.head]; rfl)]; exact h.head, h.le, hl, h.old.same hs, h.new.same hs, h.sep⟩
theorem RAt.after {B T : Nat} {t : KT} {vo vn : Value} {w w' : World} (h : RAt B T t vo vn w) (hb : Below w.heap.size w w') : RAt B T t vo vn w' := h.same (rsame_below hb) (Nat.le_trans h.pos hb.size)
theorem RAt.drewN {B T : Nat} {t : KT} {vo vn : Value} {w : World} (h : RAt B T t vo vn w) (n : Nat) : RAt B T t vo vn (w.drewN n) := h.same (rsame_drewN w n) h.pos
/-- The head's cells. -/
theorem RAt.cells {B T : Nat} {t : KT} {vo vn : Value} {w : World} (h : RAt B T t vo vn w) : w.cell? ⟨T, 0, none⟩ = some (.int .u64 t.seed) ∧ w.cell? ⟨T, 1, none⟩ = some vo ∧ w.cell? ⟨T, 2, none⟩ = some vn ∧ w.cell? ⟨T, 3, none⟩ = some (.int .i64 t.moved) ∧ (∀ i, w.frozen? ⟨T, i, none⟩ = false) := by
  refine ⟨Lib.cell_of_heap h.head 0, Lib.cell_of_heap h.head 1, Lib.cell_of_heap h.head 2, Lib.cell_of_heap h.head 3, fun i => ?_⟩
  have hh := h.head
  simp [World.frozen?, hh]
/-- What always holds of the table. -/
structure KOk (t : KT) : Prop where
  seed : U t.seed
  s0 : ∃ k, 2 ≤ k ∧ k ≤ 16 ∧ t.old.length = pw k
  s1 : (t.moved = -1 ∧ t.new = []) ∨ (0 ≤ t.moved ∧ t.moved < t.old.length ∧ ∃ k, 2 ≤ k ∧ k ≤ 16 ∧ t.new.length = pw k)
  ks : (∀ c ∈ t.old, ∀ k ∈ c, k.size ≤ 1000) ∧ (∀ c ∈ t.new, ∀ k ∈ c, k.size ≤ 1000)
  ct : t.old.flatten.length + t.new.flatten.length ≤ 1000000

set_option maxHeartbeats 1000000 in
theorem log7_any (k : Nat) (hk : k ≤ 16) (w : World) : Calls Tryd.prog 58 #[.int .i64 (pw k : Nat)] w fun e w' => e = .returned (.int .i64 (k : Nat)) ∧ w = w' := by
  go_enter Tryd.func58, Tryd.ntmps58
  go_wp2
  go_loop [0, 3] (fun n b => ∃ j : Nat, j ≤ k ∧ n = .int .i64 (pw (k - j) : Nat) ∧ b = .int .i64 j) (fun _ b => k - (intOf b).toNat)
  case atStart => exact ⟨0, Nat.zero_le _, rfl, rfl⟩
  case round =>
    obtain ⟨j, hj, rfl, rfl⟩ := hrel
    have hpl := pw_le (k := k - j) (by omega)
    by_cases hlt : j < k
    · have hp := pw_succ (k - j - 1)
      rw [show k - j - 1 + 1 = k - j by omega] at hp
      have hp1 := pw_pos (k - j - 1)
      have hq : (pw (k - j) : Int) / 2 = ((pw (k - (j + 1)) : Nat) : Int) := by rw [show k - (j + 1) = k - j - 1 by omega]; omega
      have hq2 : (pw (k - j) : Int).tdiv 2 = ((pw (k - (j + 1)) : Nat) : Int) := by rw [Int.tdiv_eq_ediv_of_nonneg (by omega)]; exact hq
      have hd : decide ((1 : Int) < (pw (k - j) : Nat)) = true := by simp; omega
      have hqb := pw_le (k := k - (j + 1)) (by omega)
      go_wp2
      go_round
      case rel => exact ⟨j + 1, by omega, by first | rfl | go_num, by go_num⟩
      case measure => simp [intOf]; omega
    · have hjk : j = k := by omega
      subst hjk
      rw [Nat.sub_self, pw_zero] at *
      go_wp2
      go_ret
      exact ⟨rfl, rfl⟩
set_option maxHeartbeats 1000000 in
theorem log8_any (k : Nat) (hk : k ≤ 16) (w : World) : Calls Tryd.prog 39 #[.int .i64 (pw k : Nat)] w fun e w' => e = .returned (.int .i64 (k : Nat)) ∧ w = w' := by
  go_enter Tryd.func39, Tryd.ntmps39
  go_wp2
  go_loop [0, 3] (fun n b => ∃ j : Nat, j ≤ k ∧ n = .int .i64 (pw (k - j) : Nat) ∧ b = .int .i64 j) (fun _ b => k - (intOf b).toNat)
  case atStart => exact ⟨0, Nat.zero_le _, rfl, rfl⟩
  case round =>
    obtain ⟨j, hj, rfl, rfl⟩ := hrel
    have hpl := pw_le (k := k - j) (by omega)
    by_cases hlt : j < k
    · have hp := pw_succ (k - j - 1)
      rw [show k - j - 1 + 1 = k - j by omega] at hp
      have hp1 := pw_pos (k - j - 1)
      have hq : (pw (k - j) : Int) / 2 = ((pw (k - (j + 1)) : Nat) : Int) := by rw [show k - (j + 1) = k - j - 1 by omega]; omega
      have hq2 : (pw (k - j) : Int).tdiv 2 = ((pw (k - (j + 1)) : Nat) : Int) := by rw [Int.tdiv_eq_ediv_of_nonneg (by omega)]; exact hq
      have hd : decide ((1 : Int) < (pw (k - j) : Nat)) = true := by simp; omega
      have hqb := pw_le (k := k - (j + 1)) (by omega)
      go_wp2
      go_round
      case rel => exact ⟨j + 1, by omega, by first | rfl | go_num, by go_num⟩
      case measure => simp [intOf]; omega
    · have hjk : j = k := by omega
      subst hjk
      rw [Nat.sub_self, pw_zero] at *
      go_wp2
      go_ret
      exact ⟨rfl, rfl⟩

/-- A key's number, as the document's hash tells it. -/
theorem rof_num (seed : Int) (key : ByteArray) (hU : U seed) (hs : key.size ≤ 1000) (w : World) : Calls Tryd.prog 63 #[.int .u64 seed, .string key] w fun e w' => e = .returned (.int .u64 ((num seed key : Nat) : Int)) ∧ w = w' := by
  rw [(num_int seed key).1]
  exact rof_any seed key hU (by unfold maxLen; omega) w
set_option maxHeartbeats 1000000 in
/-- A key's place among so many. -/
theorem rkey_place (T : Nat) (seed : Int) (key : ByteArray) (A : Option Addr) (n cap k : Nat) (hn : n = pw k) (hk : k ≤ 16) (hU : U seed) (hs : key.size ≤ 1000) (w : World) (h0 : w.cell? ⟨T, 0, none⟩ = some (.int .u64 seed)) :
    Calls Tryd.prog 50 #[.pointer (some ⟨T, 0, none⟩), .slice A n cap, .string key] w fun e w' => e = .returned (.int .i64 ((num seed key % n : Nat) : Int)) ∧ w = w' := by
  have hof := fun w => rof_num seed key hU hs w
  have hlg := fun w => log7_any k hk w
  have hpl := fun w => rplace_any (num seed key) k (num_int seed key).2 w
  rw [szN_nat hk] at hpl
  rw [← hn] at hlg hpl
  clear hn
  have hofH := Lib.hid hof
  have hlgH := Lib.hid hlg
  have hplH := Lib.hid hpl
  clear hof hlg hpl
  generalize num seed key = m at *
  generalize m % n = q at *
  go_enter Tryd.func50, Tryd.ntmps50
  go_wp2_with (first
    | (go_at_call 63; ((with_reducible refine (hofH.out _).mono ?_); rintro e w' ⟨rfl, rfl⟩))
    | (go_at_call 58; ((with_reducible refine (hlgH.out _).mono ?_); rintro e w' ⟨rfl, rfl⟩))
    | (go_at_call 38; ((with_reducible refine (hplH.out _).mono ?_); rintro e w' ⟨rfl, rfl⟩)))
  go_ret
  exact ⟨rfl, rfl⟩

/-- Where a key is in a chain, the first time. -/
def InR (c : List ByteArray) (key : ByteArray) (r : Int) : Prop := (∃ i : Nat, r = (i : Int) ∧ c[i]? = some key ∧ key ∉ c.take i) ∨ (r = -1 ∧ key ∉ c)
set_option maxHeartbeats 1000000 in
theorem rin_any {B : Nat} {w : World} {u : Value} {c : List ByteArray} (h : Ch B w u c) (key : ByteArray) (hl : c.length ≤ 1000000) :
    Calls Tryd.prog 51 #[u, .string key] w fun e w' => ∃ r : Int, e = .returned (.int .i64 r) ∧ InR c key r ∧ w = w' := by
  have hH := Lib.hid h
  obtain ⟨A, cp, rfl⟩ := h.len
  clear h
  generalize hn : c.length = n at *
  have hnH := Lib.hid hn
  go_enter Tryd.func51, Tryd.ntmps51
  go_wp2_with fail
  go_loopw [5] (fun s5 wr => ∃ i : Nat, i ≤ n ∧ s5 = .int .i64 i ∧ Hid (key ∉ c.take i) ∧ wr = w) (fun s5 _ => n - (intOf s5).toNat)
  case atStart => exact ⟨0, by omega, rfl, Lib.hid (by simp), rfl⟩
  case round =>
    obtain ⟨i, hi, rfl, hno, rfl⟩ := hrel
    by_cases hil : i < n
    · obtain ⟨e, he⟩ : ∃ e, c[i]? = some e := ⟨_, List.getElem?_eq_getElem (by omega)⟩
      obtain ⟨g1, c1, cur, v, heq, _, hg1, hcur, hc1, hc2⟩ := hH.out.cell he
      have htk : c.take (i + 1) = c.take i ++ [e] := by rw [List.take_add_one, he]; rfl
      cases heq
      have hmul : 2 * i = i * 2 := Nat.mul_comm _ _
      rw [hmul] at hc1
      cases heb : (e.toList == key.toList) with
      | true =>
        have hek := bytes_eq heb
        subst hek
        have hres := Lib.hid (show InR c e (i : Int) from Or.inl ⟨i, rfl, he, hno.out⟩)
        clear he htk hmul hcur hc2
        go_wp2_with fail
        go_ret
        exact ⟨_, rfl, hres.out, rfl⟩
      | false =>
        have hres := Lib.hid (show key ∉ c.take (i + 1) by
          rw [htk]
          intro hm
          rcases List.mem_append.1 hm with hm | hm
          · exact hno.out hm
          · simp at hm
            subst hm
            simp at heb)
        clear he htk hmul hcur hc2
        go_wp2_with fail
        go_roundw
        case rel => exact ⟨i + 1, by omega, by go_num, hres, by first | rfl | trivial⟩
        case measure => simp [intOf]; omega
    · have hin : i = n := by omega
      subst hin
      have hno2 := hno.out
      rw [← hnH.out, List.take_length] at hno2
      have hres := Lib.hid (show InR c key (-1) from Or.inr ⟨rfl, hno2⟩)
      clear hno2
      go_wp2_with fail
      go_ret
      exact ⟨_, rfl, hres.out, rfl⟩

end Go.Proofs.YtdldgiicblmknaaDoor

/-
  A table without its blocks: the document's own, as lists; a step, a key that comes, in it. Mathematics; no condition.
-/
namespace Go.Proofs.YtdldgiicblmknaaDoor
open Go.RowKit

/-- A key and its value. -/
abbrev Kv := ByteArray × Int
/-- Places without blocks. -/
def bare (l : List (List En)) : List (List Kv) := l.map fun c => c.map Prod.snd
theorem bare_len (l : List (List En)) : (bare l).length = l.length := by simp [bare]
theorem bare_nils (n : Nat) : bare (List.replicate n []) = List.replicate n [] := by simp [bare]
theorem bare_set (l : List (List En)) (M : Nat) (c : List En) : bare (l.set M c) = (bare l).set M (c.map Prod.snd) := by unfold bare; rw [List.map_set]
theorem bare_get (l : List (List En)) (i : Nat) : (bare l)[i]? = l[i]?.map fun c => c.map Prod.snd := by simp [bare]
theorem bare_getD (l : List (List En)) (i : Nat) : (bare l).getD i [] = (l.getD i []).map Prod.snd := by
  rw [List.getD, bare_get, List.getD]
  cases l[i]? <;> rfl
/-- A key is put ahead at its place. -/
def withE (seed : Int) (l : List (List Kv)) (x : Kv) : List (List Kv) := l.set (num seed x.1 % l.length) (x :: l.getD (num seed x.1 % l.length) [])
theorem bare_push (seed : Int) (l : List (List En)) (e : En) : bare (pushL seed l e) = withE seed (bare l) e.2 := by
  unfold pushL withE
  rw [bare_set, bare_len, bare_getD]
  rfl
theorem bare_fold (seed : Int) : ∀ (L : List En) (l : List (List En)), bare (L.foldl (pushL seed) l) = (L.map Prod.snd).foldl (withE seed) (bare l) := by
  intro L
  induction L with
  | nil => intro l; rfl
  | cons e L ih => intro l; rw [List.foldl_cons, ih, bare_push]; rfl
/-- The document's table. -/
structure ET where
  seed : Int
  old : List (List Kv)
  new : List (List Kv)
  moved : Int
def er (X : Tb) : ET := ⟨X.seed, bare (openL X), bare X.new, if X.new = [] then -1 else (X.moved : Int)⟩
theorem openL_of {X : Tb} (h : X.old ≠ []) : openL X = X.old := by unfold openL; rw [if_neg (fun hh => h hh.2)]
theorem openL_len (X : Tb) : (openL X).length = openLen X := by unfold openL openLen; split <;> simp
theorem openL_ne (X : Tb) (hn : X.new = []) : openL X ≠ [] := by
  unfold openL
  split
  · simp
  · next h => exact fun hh => h ⟨hn, hh⟩
/-- A step of the document's table. -/
def stepE (t : ET) : ET :=
  if t.moved.toNat + 1 = t.old.length then { t with old := (t.old.getD t.moved.toNat []).foldl (withE t.seed) t.new, new := [], moved := -1 }
  else { t with old := t.old.set t.moved.toNat [], new := (t.old.getD t.moved.toNat []).foldl (withE t.seed) t.new, moved := t.moved + 1 }
theorem er_step {X : Tb} (h : Inv X) (hn : X.new ≠ []) : er (stepX X) = stepE (er X) := by
  have hmv := h.good.mv hn
  have ho : X.old ≠ [] := fun hh => by rw [hh] at hmv; simp at hmv
  obtain ⟨h1, _, _⟩ := foldP X.seed (X.old.getD X.moved []) X.new (List.length_pos_iff.2 hn)
  have hne : (List.foldl (pushL X.seed) X.new (X.old.getD X.moved [])) ≠ [] := by
    intro hh; rw [hh] at h1; exact hn (List.length_eq_zero_iff.1 h1.symm)
  have herX : er X = ⟨X.seed, bare X.old, bare X.new, (X.moved : Int)⟩ := by unfold er; rw [openL_of ho, if_neg hn]
  rw [herX]
  unfold stepE
  simp only [Int.toNat_natCast, bare_len, bare_getD]
  by_cases hd : X.moved + 1 = X.old.length
  · rw [if_pos hd]
    have hs : stepX X = { X with p0 := X.p1, p1 := none, old := (X.old.getD X.moved []).foldl (pushL X.seed) X.new, new := [], moved := X.moved + 1, ext := [] } := by unfold stepX; rw [if_pos hd]
    rw [hs]
    unfold er
    rw [openL_of hne]
    simp only [if_true, bare_fold]
    rfl
  · rw [if_neg hd]
    have hs : stepX X = { X with old := X.old.set X.moved [], new := (X.old.getD X.moved []).foldl (pushL X.seed) X.new, moved := X.moved + 1, ext := [] } := by unfold stepX; rw [if_neg hd]
    rw [hs]
    unfold er
    rw [openL_of (X := { X with old := X.old.set X.moved [], new := (X.old.getD X.moved []).foldl (pushL X.seed) X.new, moved := X.moved + 1, ext := [] }) (by
      intro hh
      have h2 : (X.old.set X.moved []).length = X.old.length := by simp
      rw [show X.old.set X.moved [] = [] from hh] at h2
      simp at h2; omega)]
    simp only [hne, if_false, bare_fold, bare_set, List.map_nil]
    congr 1
/-- A key that comes, in the document's table. -/
theorem er_came {Y G : Tb} {key : ByteArray} {v : Int} (h : Came Y G key v) (hY : Inv Y) :
    (Y.new ≠ [] ∧ (er G).new = withE Y.seed (er Y).new (key, v) ∧ (er G).old = (er Y).old ∧ (er G).moved = (er Y).moved) ∨
    (Y.new = [] ∧ (er G).old = withE Y.seed (er Y).old (key, v) ∧ (((er G).new = [] ∧ (er G).moved = -1 ∧ (openLen Y < Y.count + 1 → openLen Y = 65536)) ∨ (openLen Y < Y.count + 1 ∧ (er G).new = List.replicate (2 * openLen Y) [] ∧ (er G).moved = 0))) := by
  obtain ⟨e, he, hx⟩ := h.ex
  rcases hx with ⟨h1, h2, h3⟩ | ⟨h1, h2, h3⟩
  · left
    have hgn : G.new ≠ [] := by
      rw [h2]; intro hh
      have := pushL_len Y.seed Y.new e
      rw [hh] at this
      exact h1 (List.length_eq_zero_iff.1 this.symm)
    refine ⟨h1, ?_, ?_, ?_⟩
    · show bare G.new = _
      rw [h2, bare_push, he]; rfl
    · have hyo : Y.old ≠ [] := fun hh => by have := hY.good.mv h1; rw [hh] at this; simp at this
      show bare (openL G) = bare (openL Y)
      rw [openL_of hyo, openL_of (by rw [h3]; exact hyo), h3]
    · show (if G.new = [] then (-1 : Int) else (G.moved : Int)) = if Y.new = [] then -1 else (Y.moved : Int)
      rw [if_neg hgn, if_neg h1]
      rcases h.new with ⟨_, _, h4⟩ | ⟨h4, _⟩ | ⟨h4, _⟩
      · rw [h4]
      · exact absurd h4 h1
      · exact absurd h4 h1
  · right
    have hgo : G.old ≠ [] := by
      rw [h2]; intro hh
      have := pushL_len Y.seed (openL Y) e
      rw [hh] at this
      exact openL_ne Y h1 (List.length_eq_zero_iff.1 this.symm)
    refine ⟨h1, ?_, ?_⟩
    · show bare (openL G) = withE Y.seed (bare (openL Y)) (key, v)
      rw [openL_of hgo, h2, bare_push, he]
    · rcases h.new with ⟨h4, _⟩ | ⟨_, h4, h5⟩ | ⟨_, h4, h5, h6⟩
      · exact absurd h1 h4
      · left
        refine ⟨by show bare G.new = []; rw [h4]; rfl, ?_, h5⟩
        show (if G.new = [] then (-1 : Int) else (G.moved : Int)) = -1
        rw [if_pos h4]
      · right
        have hpos : 0 < openLen Y := by rw [← openL_len]; exact List.length_pos_iff.2 (openL_ne Y h1)
        have hgn : G.new ≠ [] := fun hh => by rw [hh] at h5; simp at h5; omega
        refine ⟨h4, ?_, ?_⟩
        · show bare G.new = _
          rcases h3 with h3 | h3
          · exact absurd h3 hgn
          · rw [h3, bare_nils]
        · show (if G.new = [] then (-1 : Int) else (G.moved : Int)) = 0
          rw [if_neg hgn, h6]; rfl

/-- Another value, in the document's table. -/
theorem er_valued {Y G : Tb} {key : ByteArray} {v : Int} (h : ValX Y G key v) (hY : Inv Y) :
    (∃ (A : List Kv) (u : Int) (B : List Kv), (er Y).old[num Y.seed key % (er Y).old.length]? = some (A ++ (key, u) :: B) ∧ er G = { er Y with old := (er Y).old.set (num Y.seed key % (er Y).old.length) (A ++ (key, v) :: B) }) ∨
    ((er Y).new ≠ [] ∧ ∃ (A : List Kv) (u : Int) (B : List Kv), (er Y).new[num Y.seed key % (er Y).new.length]? = some (A ++ (key, u) :: B) ∧ er G = { er Y with new := (er Y).new.set (num Y.seed key % (er Y).new.length) (A ++ (key, v) :: B) }) := by
  rcases h with ⟨M, A, e, B, h1, hk, rfl⟩ | ⟨M, A, e, B, h1, hk, rfl⟩
  · left
    have hM := hY.pl0 M _ h1 e (by simp)
    rw [hk] at hM
    have ho : Y.old ≠ [] := fun hh => by rw [hh] at h1; simp at h1
    have hol : (er Y).old = bare Y.old := by show bare (openL Y) = _; rw [openL_of ho]
    have hs : (Y.old.set M (A ++ (e.1, e.2.1, v) :: B)) ≠ [] := by
      intro hh
      have h2 : (Y.old.set M (A ++ (e.1, e.2.1, v) :: B)).length = Y.old.length := by simp
      rw [hh] at h2
      exact ho (List.length_eq_zero_iff.1 h2.symm)
    refine ⟨A.map Prod.snd, e.2.2, B.map Prod.snd, ?_, ?_⟩
    · rw [hol, bare_len, hM, bare_get, h1, ← hk]; simp
    · rw [hol, bare_len, hM]
      unfold er
      rw [openL_of (X := { Y with old := Y.old.set M (A ++ (e.1, e.2.1, v) :: B) }) hs]
      simp only [bare_set]
      have hd : ((A ++ (e.1, e.2.1, v) :: B) : List En).map Prod.snd = (A.map Prod.snd ++ (key, v) :: B.map Prod.snd) := by rw [← hk]; simp
      rw [hd]
  · right
    have hM := hY.pl1 M _ h1 e (by simp)
    rw [hk] at hM
    have hn : Y.new ≠ [] := fun hh => by rw [hh] at h1; simp at h1
    have hne : (er Y).new ≠ [] := by show bare Y.new ≠ []; intro hh; exact hn (by have := congrArg List.length hh; rw [bare_len] at this; exact List.length_eq_zero_iff.1 this)
    have hs : (Y.new.set M (A ++ (e.1, e.2.1, v) :: B)) ≠ [] := by
      intro hh
      have h2 : (Y.new.set M (A ++ (e.1, e.2.1, v) :: B)).length = Y.new.length := by simp
      rw [hh] at h2
      exact hn (List.length_eq_zero_iff.1 h2.symm)
    refine ⟨hne, A.map Prod.snd, e.2.2, B.map Prod.snd, ?_, ?_⟩
    · show (bare Y.new)[num Y.seed key % (bare Y.new).length]? = _
      rw [bare_len, hM, bare_get, h1, ← hk]; simp
    · show _ = ET.mk _ _ ((bare Y.new).set (num Y.seed key % (bare Y.new).length) _) _
      rw [bare_len, hM]
      unfold er
      have hd : ((A ++ (e.1, e.2.1, v) :: B) : List En).map Prod.snd = (A.map Prod.snd ++ (key, v) :: B.map Prod.snd) := by rw [← hk]; simp
      have hop : openL { Y with new := Y.new.set M (A ++ (e.1, e.2.1, v) :: B) } = openL Y := by
        unfold openL
        rw [if_neg (fun hh => hs hh.1), if_neg (fun hh => hn hh.1)]
      rw [hop]
      simp only [bare_set, hs, hn, if_false, hd]

/-- A key that goes, in the document's table. -/
theorem er_gone {Y G : Tb} {key : ByteArray} (h : GoneX Y G key) (hY : Inv Y) :
    (∃ (A : List Kv) (u : Int) (B : List Kv), (er Y).old[num Y.seed key % (er Y).old.length]? = some (A ++ (key, u) :: B) ∧ er G = { er Y with old := (er Y).old.set (num Y.seed key % (er Y).old.length) (A ++ B) }) ∨
    ((er Y).new ≠ [] ∧ ∃ (A : List Kv) (u : Int) (B : List Kv), (er Y).new[num Y.seed key % (er Y).new.length]? = some (A ++ (key, u) :: B) ∧ er G = { er Y with new := (er Y).new.set (num Y.seed key % (er Y).new.length) (A ++ B) }) := by
  rcases h with ⟨M, A, e, B, h1, hk, rfl⟩ | ⟨M, A, e, B, h1, hk, rfl⟩
  · left
    have hM := hY.pl0 M _ h1 e (by simp)
    rw [hk] at hM
    have ho : Y.old ≠ [] := fun hh => by rw [hh] at h1; simp at h1
    have hol : (er Y).old = bare Y.old := by show bare (openL Y) = _; rw [openL_of ho]
    have hs : (Y.old.set M (A ++ B)) ≠ [] := by
      intro hh
      have h2 : (Y.old.set M (A ++ B)).length = Y.old.length := by simp
      rw [hh] at h2
      exact ho (List.length_eq_zero_iff.1 h2.symm)
    refine ⟨A.map Prod.snd, e.2.2, B.map Prod.snd, ?_, ?_⟩
    · rw [hol, bare_len, hM, bare_get, h1, ← hk]; simp
    · rw [hol, bare_len, hM]
      unfold er
      rw [openL_of (X := { Y with old := Y.old.set M (A ++ B) }) hs]
      simp only [bare_set]
      have hd : ((A ++ B) : List En).map Prod.snd = (A.map Prod.snd ++ B.map Prod.snd) := by simp
      rw [hd]
  · right
    have hM := hY.pl1 M _ h1 e (by simp)
    rw [hk] at hM
    have hn : Y.new ≠ [] := fun hh => by rw [hh] at h1; simp at h1
    have hne : (er Y).new ≠ [] := by show bare Y.new ≠ []; intro hh; exact hn (by have := congrArg List.length hh; rw [bare_len] at this; exact List.length_eq_zero_iff.1 this)
    have hs : (Y.new.set M (A ++ B)) ≠ [] := by
      intro hh
      have h2 : (Y.new.set M (A ++ B)).length = Y.new.length := by simp
      rw [hh] at h2
      exact hn (List.length_eq_zero_iff.1 h2.symm)
    refine ⟨hne, A.map Prod.snd, e.2.2, B.map Prod.snd, ?_, ?_⟩
    · show (bare Y.new)[num Y.seed key % (bare Y.new).length]? = _
      rw [bare_len, hM, bare_get, h1, ← hk]; simp
    · show _ = ET.mk _ _ ((bare Y.new).set (num Y.seed key % (bare Y.new).length) _) _
      rw [bare_len, hM]
      unfold er
      have hd : ((A ++ B) : List En).map Prod.snd = (A.map Prod.snd ++ B.map Prod.snd) := by simp
      have hop : openL { Y with new := Y.new.set M (A ++ B) } = openL Y := by
        unfold openL
        rw [if_neg (fun hh => hs hh.1), if_neg (fun hh => hn hh.1)]
      rw [hop]
      simp only [bare_set, hs, hn, if_false, hd]

theorem bare_flat (l : List (List En)) : (bare l).flatten = l.flatten.map Prod.snd := by unfold bare; rw [List.map_flatten]
/-- All keys, place by place. -/
theorem er_all {X : Tb} (h : Inv X) : (er X).old.flatten ++ (er X).new.flatten = X.ents.map Prod.snd := by
  have ho : (bare (openL X)).flatten = X.old.flatten.map Prod.snd := by
    unfold openL
    split
    · next hh => rw [hh.2, bare_nils]; simp
    · exact bare_flat X.old
  show (bare (openL X)).flatten ++ (bare X.new).flatten = _
  rw [ho, bare_flat, ← List.map_append]
  unfold Tb.ents
  rw [h.ext]; simp
theorem er_count {X : Tb} (h : Inv X) : X.count = ((er X).old.flatten ++ (er X).new.flatten).length := by rw [er_all h, List.length_map]; exact h.cnt
theorem er_fresh (T : Nat) (seed : Int) : er (newX T seed) = ⟨seed, List.replicate 4 [], [], -1⟩ := by
  unfold er openL newX bare
  simp

end Go.Proofs.YtdldgiicblmknaaDoor

/-
  The document's table as a function of ops, and that the program's is the same. Mathematics; no condition.
-/
namespace Go.Proofs.YtdldgiicblmknaaDoor
open Go.RowKit

def keysE (l : List (List Kv)) : List (List ByteArray) := l.map fun c => c.map Prod.fst
/-- The keys alone of the document's table. -/
def kt (e : ET) : KT := ⟨e.seed, keysE e.old, keysE e.new, e.moved⟩
theorem keysE_len (l : List (List Kv)) : (keysE l).length = l.length := by simp [keysE]
theorem keysE_getD (l : List (List Kv)) (i : Nat) : (keysE l).getD i [] = (l.getD i []).map Prod.fst := by
  unfold keysE
  rw [List.getD_eq_getElem?_getD, List.getElem?_map, List.getD_eq_getElem?_getD]
  cases l[i]? <;> rfl
theorem keysE_set (l : List (List Kv)) (i : Nat) (c : List Kv) : keysE (l.set i c) = (keysE l).set i (c.map Prod.fst) := by unfold keysE; rw [List.map_set]
/-- A key ahead at its place. -/
def withK (seed : Int) (l : List (List ByteArray)) (key : ByteArray) : List (List ByteArray) := l.set (num seed key % l.length) (key :: l.getD (num seed key % l.length) [])
theorem keysE_with (seed : Int) (l : List (List Kv)) (x : Kv) : keysE (withE seed l x) = withK seed (keysE l) x.1 := by
  unfold withE withK
  rw [keysE_set, keysE_len, keysE_getD]
  rfl
theorem keysE_fold (seed : Int) : ∀ (L : List Kv) (l : List (List Kv)), keysE (L.foldl (withE seed) l) = (L.map Prod.fst).foldl (withK seed) (keysE l) := by
  intro L
  induction L with
  | nil => intro l; rfl
  | cons e L ih => intro l; rw [List.foldl_cons, ih, keysE_with]; rfl
/-- A step. -/
def stepK (t : KT) : KT :=
  if t.moved < 0 then t
  else if t.moved.toNat + 1 = t.old.length then { t with old := (t.old.getD t.moved.toNat []).foldl (withK t.seed) t.new, new := [], moved := -1 }
  else { t with old := t.old.set t.moved.toNat [], new := (t.old.getD t.moved.toNat []).foldl (withK t.seed) t.new, moved := t.moved + 1 }
theorem er_moved {X : Tb} : (er X).moved < 0 ↔ X.new = [] := by
  unfold er
  by_cases h : X.new = []
  · rw [if_pos h]; simp [h]
  · rw [if_neg h]; simp [h]
theorem kt_step {X : Tb} (h : Inv X) (hn : X.new ≠ []) : kt (er (stepX X)) = stepK (kt (er X)) := by
  have hm : ¬(er X).moved < 0 := fun hh => hn (er_moved.1 hh)
  rw [er_step h hn]
  unfold stepE stepK
  show kt _ = if (er X).moved < 0 then _ else _
  rw [if_neg hm]
  show _ = if (er X).moved.toNat + 1 = (keysE (er X).old).length then _ else _
  rw [keysE_len]
  split
  · unfold kt
    simp only [keysE_fold, keysE_getD]
    congr 1
  · unfold kt
    simp only [keysE_fold, keysE_getD, keysE_set, List.map_nil]
theorem kt_still {X : Tb} (hn : X.new = []) : stepK (kt (er X)) = kt (er X) := by
  have h : (kt (er X)).moved < 0 := er_moved.2 hn
  unfold stepK
  rw [if_pos h]
/-- Where a key's places are. -/
def plO (t : KT) (key : ByteArray) : Nat := num t.seed key % t.old.length
def plN (t : KT) (key : ByteArray) : Nat := num t.seed key % t.new.length
def cntK (t : KT) : Nat := t.old.flatten.length + t.new.flatten.length
/-- A key that is put behind a step. -/
def put1 (t : KT) (key : ByteArray) : KT :=
  if hasB (t.old.getD (plO t key) []) key = true then t
  else if t.moved < 0 then
    let o := withK t.seed t.old key
    if t.old.length < o.flatten.length + t.new.flatten.length ∧ t.old.length < 65536 then { t with old := o, new := List.replicate (2 * t.old.length) [], moved := 0 }
    else { t with old := o }
  else if hasB (t.new.getD (plN t key) []) key = true then t
  else { t with new := withK t.seed t.new key }
def putK (t : KT) (key : ByteArray) : KT := put1 (stepK t) key
/-- A key that is dropped behind a step. -/
def drop1 (t : KT) (key : ByteArray) : KT :=
  let o := if hasB (t.old.getD (plO t key) []) key = true then { t with old := t.old.set (plO t key) (outB (t.old.getD (plO t key) []) key) } else if 0 ≤ t.moved ∧ hasB (t.new.getD (plN t key) []) key = true then { t with new := t.new.set (plN t key) (outB (t.new.getD (plN t key) []) key) } else t
  if hasB (t.old.getD (plO t key) []) key = true ∨ (0 ≤ t.moved ∧ hasB (t.new.getD (plN t key) []) key = true) then
    (if t.moved < 0 ∧ 4 < t.old.length ∧ 8 * cntK o < t.old.length then { o with new := List.replicate (t.old.length / 2) [], moved := 0 } else o)
  else t
def dropK (t : KT) (key : ByteArray) : KT := drop1 (stepK t) key
/-- So many steps. -/
def stepsK : Nat → KT → KT
  | 0, t => t
  | n + 1, t => if t.moved < 0 then t else stepsK n (stepK t)

end Go.Proofs.YtdldgiicblmknaaDoor

/-
  A chain that is appended to a chain of one's own; the walk of with: a key is put ahead at its place. A table's shape; the bounds that Go's own numbers have.
-/
namespace Go.Proofs.YtdldgiicblmknaaDoor
open Go.RowKit

theorem info_one : (Tryd.prog.info? 80).map (fun i => (i.zero, i.size, i.bytes)) = some (some (.agg #[.string ⟨#[]⟩, .int .i64 0]), 2, 24) := by kernel_rfl
theorem run_append_ch {w : World} {ty : TypeId} (B B' : Nat) {v x : Value} {c d : List ByteArray} (hv : Ch B w v c) (hx : Ch B' w x d) (hlen : c.length + d.length ≤ 2000000) (hB : B ≤ w.heap.size) :
    ∃ v' w', (Builtin.append_ #[78, 78] ty #[v, x]).run Tryd.prog w = .ok v' w' ∧ Ch B w' v' (c ++ d) ∧ Only v.ownBlock.toList w w' ∧ (v'.ownBlock = v.ownBlock ∨ v'.ownBlock = some w.heap.size) := by
  obtain ⟨i0, hi, hz0, hz1, hz2⟩ := info_parts info_one
  obtain ⟨xs, h1, h2⟩ := hv
  obtain ⟨ys, k1, k2⟩ := hx
  have k1' := k1
  obtain ⟨hyl, ⟨rfl, hd0⟩ | ⟨g, cap, cur, rfl, h3, h4, h5, h6, h7, h8⟩⟩ := k1'
  · have hd : d = [] := List.length_eq_zero_iff.1 hd0
    subst hd
    have hrun := run_append_owned_none (P := Tryd.prog) (w := w) B 78 ty 80 i0 2 Tryd.underlying78 hi v c.length xs h1
    exact ⟨v, w, hrun, by rw [List.append_nil]; exact ⟨xs, h1, h2⟩, Only.refl _ _, Or.inl rfl⟩
  · obtain ⟨v', w', hr, e2, e3, _, e5⟩ := run_append_own_at (P := Tryd.prog) w B 78 ty 80 i0 (.agg #[.string ⟨#[]⟩, .int .i64 0]) 2 24 Tryd.underlying78 hi hz0 hz1 hz2 rfl (by omega) v c.length xs h1 ⟨g, 0, none⟩ d.length cap ys hyl (by
      intro j u hj
      have hjl : j < ys.length := (List.getElem?_eq_some_iff.1 hj).1
      have := World.ownsRow.cellAt k1 j (by omega)
      rw [hj] at this
      rcases j with _ | j <;> simpa [Addr.add] using this) (by
      intro u hu
      obtain ⟨j, hj⟩ := List.getElem?_of_mem hu
      have hjl : j < ys.length := (List.getElem?_eq_some_iff.1 hj).1
      obtain ⟨k, hk⟩ : ∃ k, d[j / 2]? = some k := ⟨_, List.getElem?_eq_getElem (by omega)⟩
      obtain ⟨q1, q, q2⟩ := k2 (j / 2) k hk
      rcases Nat.mod_two_eq_zero_or_one j with hm | hm
      · rw [show 2 * (j / 2) = j by omega, hj] at q1
        cases q1; rfl
      · rw [show 2 * (j / 2) + 1 = j by omega, hj] at q2
        cases q2; rfl) (by unfold maxLen; omega) (by omega) hB
    refine ⟨v', w', hr, ⟨xs ++ ys, by rw [List.length_append]; exact e2, h2.append (by have := h1.1; omega) k2⟩, grown_only e3, e5⟩
/-- At a step of a region that draws its order. -/
theorem step_append_ch {w : World} {ops : Array Oper} {o : Oper} {a : Act} {K : Act → World → Prop} {Q : Exit → Act → World → Prop} {E : Prop} (hgd : o.guard = none) (s x : Operand)
    (ho : o.op = .call { callee := .builtin .append, args := #[s, x], argTypes := #[78, 78] })
    (B B' : Nat) (v xv : Value) (c d : List ByteArray) (hs : a.eval s = v) (hx : a.eval x = xv) (hv : Ch B w v c) (hxv : Ch B' w xv d) (hlen : c.length + d.length ≤ 2000000) (hB : B ≤ w.heap.size)
    (h : ∀ v' w', Ch B w' v' (c ++ d) → Only v.ownBlock.toList w w' → (v'.ownBlock = v.ownBlock ∨ v'.ownBlock = some w.heap.size) → K (a.put o.dst v') w') :
    if Region.wanted o (yielded ops a.tmps) = true then Oper.wp Tryd.prog o a w K Q else E := by
  have hw : Region.wanted o (yielded ops a.tmps) = true := by simp [Region.wanted, hgd]
  rw [if_pos hw]
  obtain ⟨v', w', hr, h2, h3, h5⟩ := run_append_ch (ty := o.type) B B' hv hxv hlen hB
  unfold Oper.wp execOp
  simp only [ho, resolve, invoke, builtin, Sem.run_bind, Sem.run_pure, Result.andThen_ok, List.map_toArray, List.map_cons, List.map_nil, hs, hx, hr]
  exact h v' w' h2 h3 h5
theorem ch_one {B : Nat} (w : World) (hB : B ≤ w.heap.size) (k : ByteArray) (v : Int) : Ch B (w.alloc (.cells #[.string k, .int .i64 v] 80)) (.slice (some ⟨w.heap.size, 0, none⟩) 1 1) [k] :=
  ⟨[.string k, .int .i64 v], ⟨rfl, Or.inr ⟨w.heap.size, 1, #[.string k, .int .i64 v], rfl, hB, heap_alloc_new w _, by simp, by unfold maxLen; omega, rfl, rfl⟩⟩, fun j x hj => by
    rcases j with _ | j
    · simp at hj; subst hj; exact ⟨rfl, v, rfl⟩
    · simp at hj⟩
theorem cell_lt {w : World} {p : Addr} {v : Value} (h : w.cell? p = some v) : p.block < w.heap.size := by
  rcases Nat.lt_or_ge p.block w.heap.size with h1 | h1
  · exact h1
  · simp [World.cell?, Array.getElem?_eq_none h1] at h
/-- A place's address, as an operation tells it. -/
theorem run_ix (g q n cap : Nat) (hq : q < n) (w : World) : Sem.run Tryd.prog (Instr.indexAt 29 (.slice (some ⟨g, 0, none⟩) n cap) (.int .i64 (q : Int))) w = .ok (.pointer (some ⟨g, q, none⟩)) w := by
  go_simp
set_option maxHeartbeats 2000000 in
theorem with_any {B T : Nat} {seed : Int} {w : World} {v : Value} {l : List (List ByteArray)} (h : Rw B w v l) (h0 : w.cell? ⟨T, 0, none⟩ = some (.int .u64 seed)) (k : Nat) (hn : l.length = pw k) (hk : k ≤ 16) (hU : U seed) (key : ByteArray) (hs : key.size ≤ 1000) (x : Int) (hl : ∀ c ∈ l, c.length ≤ 1000000) (hB : B ≤ w.heap.size) :
    Calls Tryd.prog 52 #[.pointer (some ⟨T, 0, none⟩), v, .agg #[.string key, .int .i64 x]] w fun e w' => e = .returned v ∧ ∃ w1 g u, v.ownBlock = some g ∧ Below w.heap.size w w1 ∧ Ch B w1 u (key :: l.getD (num seed key % l.length) []) ∧ w' = w1.setCell ⟨g, num seed key % l.length, none⟩ u := by
  have hpos := pw_pos k
  have hq := Nat.mod_lt (num seed key) (show 0 < l.length by omega)
  obtain ⟨g, cap, u, cur, rfl, hg0, hg1, hcur, hcell, hch⟩ := h.cell hq
  have hpl := fun (w1 : World) (hb : Below w.heap.size w w1) => rkey_place T seed key (some ⟨g, 0, none⟩) l.length cap k hn hk hU hs w1 ((hb.cell (p := ⟨T, 0, none⟩) (cell_lt h0)).trans h0)
  have hplH := Lib.hid hpl
  have hcl : (l.getD (num seed key % l.length) []).length ≤ 1000000 := hl _ (by rw [List.getD_eq_getElem?_getD, List.getElem?_eq_getElem hq]; exact List.getElem_mem hq)
  have hchH := Lib.hid hch
  clear h hl hch hpl hn hpos
  generalize l.getD (num seed key % l.length) [] = c at *
  generalize num seed key % l.length = q at *
  generalize l.length = n at *
  have hfz : w.frozen? ⟨g, q, none⟩ = false := by simp [World.frozen?, hcur]
  go_enter Tryd.func52, Tryd.ntmps52
  go_upto_region 2 with (go_at_call 50; ((with_reducible refine (hplH.out _ ((Below.refl _ _).alloc (Nat.le_refl _) _)).mono ?_); rintro e w' ⟨rfl, rfl⟩))
  have hal : Below w.heap.size w (w.alloc (.cells #[.string key, .int .i64 x] 80)) := (Below.refl _ _).alloc (Nat.le_refl _) _
  have hbx := Lib.cell_of_heap (heap_alloc_new w (.cells #[.string key, .int .i64 x] 80))
  have b0 := hbx 0
  have b1 := hbx 1
  have hcell1 : (w.alloc (.cells #[.string key, .int .i64 x] 80)).cell? ⟨g, q, none⟩ = some u := (hal.cell (p := ⟨g, q, none⟩) hg1).trans hcell
  have hfz1 : (w.alloc (.cells #[.string key, .int .i64 x] 80)).frozen? ⟨g, q, none⟩ = false := (hal.frozen (p := ⟨g, q, none⟩) hg1).trans hfz
  have hch1 := Lib.hid (fun W' (hb : Below w.heap.size w W') => hchH.out.same (rsame_below hb))
  have hg2 : g < (w.alloc (.cells #[.string key, .int .i64 x] 80)).heap.size := by simp; omega
  have hsz : w.heap.size < (w.alloc (.cells #[.string key, .int .i64 x] 80)).heap.size := by simp
  have halH := Lib.hid hal
  clear hal hbx hcell hfz hplH hchH
  generalize w.alloc (.cells #[.string key, .int .i64 x] 80) = W at *
  have hBW : B ≤ W.heap.size := by omega
  have hix := run_ix g q n cap hq
  clear hq
  go_region_law (first
    | (refine step_append_ch rfl (.tmp 16) (.tmp 20) rfl B B _ u [key] c (by simp [Act.eval]) (by simp [Act.eval]) ((ch_one W hBW key x).same (rsame_drewN _ 1)) (hch1.out _ (halH.out.trans (((Below.refl W.heap.size W).alloc (Nat.le_refl _) (.cells #[.string key, .int .i64 x] 80)).drew.mono (Nat.le_of_lt hsz)))) (by simp; omega) (by simp; omega) ?_; intro v2 w2 hch2 ho2 hv2; obtain ⟨A2, cp2, hv2e⟩ := hch2.len; subst hv2e; have hb2 : w2.heap[g]? = W.heap[g]? := (ho2.2 g (by simp; omega) (by simp [Value.ownBlock]; omega)).trans (Below.heap_alloc W (.cells #[.string key, .int .i64 x] 80) g hg2); have c2 := (World.cell?_of_block (w := W) (a := ⟨g, q, none⟩) hb2).trans hcell1; have f2 := (World.frozen?_of_block (w := W) (a := ⟨g, q, none⟩) hb2).trans hfz1; have hch2H := Lib.hid hch2; have ho2H := Lib.hid ho2; clear hch2 ho2 hv2 hb2))
  all_goals
    have hbw2 := Lib.hid (halH.out.trans ((((Below.refl w.heap.size W).alloc (by omega) (.cells #[.string key, .int .i64 x] 80)).drew).trans (ho2H.out.below (by simp; omega) (by simp [Value.ownBlock]; omega))))
    go_wp2_with fail
    go_ret
    exact ⟨rfl, w2, g, _, rfl, hbw2.out, hch2H.out, rfl⟩

end Go.Proofs.YtdldgiicblmknaaDoor
