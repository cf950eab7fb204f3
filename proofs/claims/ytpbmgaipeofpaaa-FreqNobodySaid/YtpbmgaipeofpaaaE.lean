/-
  A ring with its map: a touch, a drop. Premises: a ring as it lies, of at most a million keys.
-/
import Derived.Test.YtpbmgaipeofpaaaD
namespace Go.Proofs.Ytpbmgaipeofpaaa
open Go.RowKit
variable {w w' : World} {g m room : Nat} {wk : Int} {bs : Nds} {nx pv : Nat → Nat}

theorem blk_app (xs ys : Nds) : blk (xs ++ ys) = blk xs ++ blk ys := List.map_append
/-- The node of a key leaves. -/
theorem leave_out {xs ys : Nds} {b : Nat} {key : ByteArray} (h : Raw w g m room wk (xs ++ (b, key) :: ys) nx pv) (hl : Lk nx pv g (blk (xs ++ (b, key) :: ys)) g) (hn : (g :: blk (xs ++ (b, key) :: ys)).Nodup) :
    Calls Try.prog 42 #[ptr b] w fun e w' => e = .returned (.tuple #[]) ∧ (∃ nx' pv', Raw w' g m room wk (xs ++ ys) nx' pv' ∧ Lk nx' pv' g (blk (xs ++ ys)) g ∧ ∃ u v, w'.heap[b]? = some (.cells #[.string key, u, v] 73 (0, 0))) ∧ Only (g :: blk (xs ++ (b, key) :: ys)) w w' := by
  have hm : (b, key) ∈ xs ++ (b, key) :: ys := by simp
  refine (leave_ring h hl (mem_blk hm)).mono ?_
  rintro e w' ⟨rfl, h1, ho⟩
  have hx : blk (xs ++ (b, key) :: ys) = blk xs ++ b :: blk ys := by simp
  rw [hx] at hl hn
  refine ⟨rfl, ⟨_, _, h1.less (fun q hq => by
    rcases List.mem_append.1 hq with h2 | h2
    · exact List.mem_append_left _ h2
    · exact List.mem_append_right _ (List.mem_cons_of_mem _ h2)), by rw [blk_app]; exact hl.leave hn, _, _, h1.node _ hm⟩, ho⟩
/-- A node enters at the end. -/
theorem enter_in (h : Raw w g m room wk bs nx pv) (hl : Lk nx pv g (blk bs) g) (hn : (g :: blk bs).Nodup) {b o : Nat} (hb : b ∉ g :: blk bs) {key : ByteArray} {u v : Value} (hB : w.heap[b]? = some (.cells #[.string key, u, v] 73 (0, 0))) (ho : w.cell? ⟨g, 1, none⟩ = some (ptr o)) :
    Calls Try.prog 43 #[ptr b, ptr o, ptr g] w fun e w' => e = .returned (.tuple #[]) ∧ (∃ nx' pv', Raw w' g m room wk (bs ++ [(b, key)]) nx' pv' ∧ Lk nx' pv' g (blk (bs ++ [(b, key)])) g) ∧ Only (b :: g :: blk bs) w w' := by
  have e0 := (h.cells (p := g) (by simp)).1
  rw [ho] at e0
  have e1 : o = pv g := by injection e0 with e0; injection e0 with e0; injection e0 with e0; injection e0
  subst e1
  refine (enter_ring h hl hb hB).mono ?_
  rintro e w' ⟨rfl, h1, ho⟩
  exact ⟨rfl, ⟨_, _, h1, by rw [blk_app]; exact hl.enter hn hb⟩, ho⟩
/-- A ring with its map: f tells where each key stands. -/
structure Rg (w : World) (g m room : Nat) (bs : Nds) (nx pv : Nat → Nat) (f : ByteArray → Option Nat) : Prop where
  raw : Raw w g m room 0 bs nx pv
  lk : Lk nx pv g (blk bs) g
  apart : (g :: blk bs).Nodup
  map : MapAt w m bs.length f
  uq : (keysN bs).Nodup
  sizes : ∀ q ∈ bs, q.2.size ≤ maxLen
  notes : ∀ q ∈ bs, f q.2 = some q.1
  dom : ∀ k, f k ≠ none → k ∈ keysN bs
  few : bs.length ≤ 1000000
  rfew : room ≤ 1000000
variable {f : ByteArray → Option Nat}
theorem Rg.m_apart (h : Rg w g m room bs nx pv f) : m ∉ g :: blk bs := fun hm => by
  obtain ⟨es, cl, e1⟩ := h.map.obj
  obtain ⟨_, _, C, t, e2⟩ := h.raw.cells hm
  rw [e1] at e2
  cases e2
def own (g m : Nat) (bs : Nds) : List Nat := g :: m :: blk bs
theorem mem_own {b : Nat} : b ∈ own g m bs ↔ b = m ∨ b ∈ g :: blk bs := by
  unfold own
  simp only [List.mem_cons]
  constructor
  · rintro (h | h | h)
    · exact Or.inr (Or.inl h)
    · exact Or.inl h
    · exact Or.inr (Or.inr h)
  · rintro (h | h | h)
    · exact Or.inr (Or.inl h)
    · exact Or.inl h
    · exact Or.inr (Or.inr h)
theorem Rg.lt (h : Rg w g m room bs nx pv f) {b : Nat} (hb : b ∈ own g m bs) : b < w.heap.size := by
  rcases mem_own.1 hb with rfl | hb
  · exact h.map.lt
  · exact h.raw.lt hb
theorem Rg.keep {O : List Nat} (h : Rg w g m room bs nx pv f) (ho : Only O w w') (hd : ∀ b ∈ own g m bs, b ∉ O) : Rg w' g m room bs nx pv f :=
  ⟨h.raw.keep ho (fun b hb => hd b (mem_own.2 (Or.inr hb))), h.lk, h.apart, h.map.keep ho (hd m (mem_own.2 (Or.inl rfl))), h.uq, h.sizes, h.notes, h.dom, h.few, h.rfew⟩
/-- The node of a key that is there. -/
theorem Rg.find (h : Rg w g m room bs nx pv f) {key : ByteArray} (hk : key ∈ keysN bs) : ∃ b xs ys, bs = xs ++ (b, key) :: ys ∧ f key = some b := by
  obtain ⟨q, hq, rfl⟩ := List.mem_map.1 hk
  obtain ⟨xs, ys, e⟩ := List.append_of_mem hq
  exact ⟨q.1, xs, ys, e, h.notes q hq⟩
theorem Rg.none (h : Rg w g m room bs nx pv f) {key : ByteArray} (hk : key ∉ keysN bs) : f key = Option.none := by
  cases hq : f key with
  | none => rfl
  | some b => exact absurd (h.dom key (by rw [hq]; simp)) hk
theorem keysN_go {xs ys : Nds} {b : Nat} {key : ByteArray} (h : (keysN (xs ++ (b, key) :: ys)).Nodup) : goK (keysN (xs ++ (b, key) :: ys)) key = keysN (xs ++ ys) := by
  have e : (keysN (xs ++ (b, key) :: ys))[xs.length]? = some key := by simp
  rw [goK_at h e]
  simp [List.drop_append]
end Go.Proofs.Ytpbmgaipeofpaaa
