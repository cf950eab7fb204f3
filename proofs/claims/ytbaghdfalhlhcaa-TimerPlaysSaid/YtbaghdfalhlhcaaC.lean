/-
  Maps from keys to places, as the program keeps them; a row of keys with times of which one place is written. Premises: keys of at most so many bytes as the model's texts have.
-/
import Derived.Test.YtbaghdfalhlhcaaB
import Derived.Maps.OwnSet
import Derived.StringKeys
namespace Go.Proofs.Ytbaghdfalhlhcaa
open Go.RowKit
open Go.Maps (Keyed IsMap Tidy)

theorem keyed : Keyed Try.prog 9 := Maps.string_keyed Try.underlying9
abbrev DN := DataW Unit
def keyL (k : ByteArray) : Lit := .string k.data.toList
theorem keyL_inj {a b : ByteArray} (h : keyL a = keyL b) : a = b := by
  unfold keyL at h
  cases h' : a
  cases h2 : b
  subst h' h2
  simp at h
  congr 1
theorem keyL_lit (k : ByteArray) : WideAt.IsKeyLit (keyL k) := trivial
theorem keyL_of (k : ByteArray) (h : k.size ≤ maxLen) : keyOf Try.prog 9 (.string k) = some (keyL k) := WideMaps.keyOf_string_mk Try.underlying9 h
def numD (i : Nat) : DN := .lit (.int .i64 (i : Int))
theorem numD_of (i : Nat) (h : i ≤ 4000000) : (plainElem (H := Unit) Try.prog 3) (.int .i64 (i : Int)) = some (numD i, []) :=
  plainElem_int Try.underlying3 (WalkArith.wf_i64 (by omega))
/-- Block m is a map of at most c entries; f tells what is noted. -/
def MapAt (w : World) (m c : Nat) (f : ByteArray → Option Nat) : Prop :=
  ∃ D : DN, w.ownsMap Try.prog 9 (plainElem (H := Unit) Try.prog 3) m c D ∧ ∀ k, Maps.has D (keyL k) = (f k).isSome ∧ ∀ i, f k = some i → D.atKey (keyL k) (numD 0) = numD i
theorem owns_tight {w : World} {m n c : Nat} {D : DN} (h : w.ownsMap Try.prog 9 (plainElem (H := Unit) Try.prog 3) m n D) (hc : Maps.size D ≤ c) : w.ownsMap Try.prog 9 (plainElem (H := Unit) Try.prog 3) m c D := by
  obtain ⟨es, clock, hb, F, hs, rfl⟩ := h
  refine ⟨es, clock, hb, F, ?_, rfl⟩
  simpa [Maps.size, length_sorted] using hc
theorem MapAt.lt {w : World} {m c : Nat} {f : ByteArray → Option Nat} (h : MapAt w m c f) : m < w.heap.size := by
  obtain ⟨D, h, _⟩ := h
  exact h.lt
theorem MapAt.keep {w w' : World} {m c : Nat} {f : ByteArray → Option Nat} {O : List Nat} (h : MapAt w m c f) (ho : Only O w w') (hm : m ∉ O) : MapAt w' m c f := by
  obtain ⟨D, ⟨es, clock, hb, F, hs, rfl⟩, h2⟩ := h
  exact ⟨_, ⟨es, clock, ho.keep hb hm, F, hs, rfl⟩, h2⟩
theorem MapAt.mono {w : World} {m c c' : Nat} {f : ByteArray → Option Nat} (h : MapAt w m c f) (hc : c ≤ c') : MapAt w m c' f := by
  obtain ⟨D, h1, h2⟩ := h
  exact ⟨D, h1.mono hc, h2⟩
theorem MapAt.ext {w : World} {m c : Nat} {f g : ByteArray → Option Nat} (h : MapAt w m c f) (hfg : ∀ k, f k = g k) : MapAt w m c g := by
  obtain rfl : f = g := funext hfg
  exact h
theorem map_made {w : World} : MapAt (w.alloc (.map #[] 0)) w.heap.size 0 (fun _ => none) :=
  ⟨.map [], World.ownsMap_made _ _ _ _, fun k => ⟨rfl, fun i hi => by cases hi⟩⟩
theorem zero_int (w : World) : (zeroValue 3).run Try.prog w = .ok (.int .i64 0) w := by kernel_rfl
/-- A look. -/
theorem MapAt.look {w : World} {m c : Nat} {f : ByteArray → Option Nat} (h : MapAt w m c f) (k : ByteArray) (hk : k.size ≤ maxLen) :
    ∃ x : Int, (Instr.lookup 51 (.map (some m)) (.string k) true).run Try.prog w = .ok (.tuple #[.int .i64 x, .bool (f k).isSome]) w ∧ ∀ i, f k = some i → x = (i : Int) := by
  obtain ⟨D, h1, h2⟩ := h
  obtain ⟨v, ps, hr, hv⟩ := h1.look_ok keyed Try.underlying51 (zero_int w) (zd := numD 0) (zp := []) (numD_of 0 (by omega)) (keyL_of k hk)
  obtain ⟨x, rfl, hx, _⟩ := plainElem_int_inv Try.underlying3 hv
  obtain ⟨k1, k2⟩ := h2 k
  refine ⟨x, by rw [hr, k1], fun i hi => ?_⟩
  have := k2 i hi
  have e := congrArg Prod.fst hx
  simp only at e
  rw [this] at e
  unfold numD at e
  injection e with e
  injection e with _ e
  exact e.symm
theorem look_none (w : World) (k : ByteArray) (hk : k.size ≤ maxLen) :
    (Instr.lookup 51 (.map none) (.string k) true).run Try.prog w = .ok (.tuple #[.int .i64 0, .bool false]) w := by
  have := Maps.look_nil (P := Try.prog) true keyed Try.underlying51 (zero_int w) (keyL_of k hk)
  exact this
/-- What is noted behind a note. -/
def note (f : ByteArray → Option Nat) (k : ByteArray) (i : Nat) : ByteArray → Option Nat := fun x => if x = k then some i else f x
theorem note_at (f : ByteArray → Option Nat) (k : ByteArray) (i : Nat) : note f k i k = some i := by unfold note; rw [if_pos rfl]
theorem note_other (f : ByteArray → Option Nat) {k x : ByteArray} (i : Nat) (h : x ≠ k) : note f k i x = f x := by unfold note; rw [if_neg h]
def unnote (f : ByteArray → Option Nat) (k : ByteArray) : ByteArray → Option Nat := fun x => if x = k then none else f x
theorem map_only {w w' : World} {b : Nat} (h : w.mapTurned w' b) : Only [b] w w' := by
  have := grown_only h.grown
  simpa using this
/-- A note. -/
theorem MapAt.put {w : World} {m c : Nat} {f : ByteArray → Option Nat} (h : MapAt w m c f) (k : ByteArray) (hk : k.size ≤ maxLen) (i : Nat) (hi : i ≤ 4000000) (hc : c ≤ 4000000) {c' : Nat} (hc' : (f k ≠ none ∧ c ≤ c') ∨ c + 1 ≤ c') :
    ∃ w', (Instr.mapUpdate 51 (.map (some m)) (.string k) (.int .i64 (i : Int))).run Try.prog w = .ok () w' ∧ MapAt w' m c' (note f k i) ∧ Only [m] w w' := by
  obtain ⟨D, h1, h2⟩ := h
  obtain ⟨w', hr, k1, k2⟩ := h1.store keyed Try.underlying51 (by unfold maxLen; omega) (keyL_of k hk) (numD_of i hi)
  refine ⟨w', hr, ⟨D.put (keyL k) (numD i), ?_, fun x => ?_⟩, map_only k2⟩
  · refine owns_tight k1 ?_
    rw [Maps.size_put (h1.tidy keyed), (h2 k).1]
    have := h1.size_le
    rcases hc' with ⟨a, b⟩ | a
    · rw [if_pos (by cases hq : f k with
        | none => exact absurd hq a
        | some j => rfl)]
      omega
    · split <;> omega
  · by_cases hx : x = k
    · subst hx
      rw [note_at]
      refine ⟨by rw [Maps.has_put_same h1.isMap (keyL_lit x)]; rfl, fun j hj => ?_⟩
      cases hj
      exact Maps.atKey_put_same h1.isMap (keyL_lit x) _ _
    · have hne : keyL x ≠ keyL k := fun e => hx (keyL_inj e)
      rw [note_other f i hx]
      refine ⟨by rw [Maps.has_put_other hne]; exact (h2 x).1, fun j hj => ?_⟩
      rw [Maps.atKey_put_other hne]
      exact (h2 x).2 j hj
/-- A note goes. -/
theorem MapAt.del {w : World} {m c : Nat} {f : ByteArray → Option Nat} (h : MapAt w m c f) (k : ByteArray) (hk : k.size ≤ maxLen) (hf : f k ≠ none) (ty : TypeId) :
    ∃ w', (Builtin.delete_ #[51, 9] ty #[.map (some m), .string k]).run Try.prog w = .ok (.tuple #[]) w' ∧ MapAt w' m (c - 1) (unnote f k) ∧ Only [m] w w' := by
  obtain ⟨D, h1, h2⟩ := h
  obtain ⟨w', hr, k1, k2⟩ := h1.drop keyed Try.underlying51 (keyL_of k hk) ty
  refine ⟨w', hr, ⟨D.del (keyL k), ?_, fun x => ?_⟩, map_only k2⟩
  · refine owns_tight k1 ?_
    have e := Maps.size_del (k := keyL k) (h1.tidy keyed)
    rw [(h2 k).1] at e
    have hs : (f k).isSome = true := by
      cases hq : f k with
      | none => exact absurd hq hf
      | some j => rfl
    rw [hs] at e
    simp at e
    have := h1.size_le
    omega
  · unfold unnote
    by_cases hx : x = k
    · subst hx
      rw [if_pos rfl]
      exact ⟨Maps.has_del_same, fun j hj => by cases hj⟩
    · have hne : keyL x ≠ keyL k := fun e => hx (keyL_inj e)
      rw [if_neg hx]
      refine ⟨by rw [Maps.has_del_other hne]; exact (h2 x).1, fun j hj => ?_⟩
      rw [Maps.atKey_del_other hne]
      exact (h2 x).2 j hj

/-- One cell of a row is written. -/
theorem pcs_set_val {L : List Sc} {i : Nat} (hi : i < L.length) (x : Sc) : ((pcs L).set (i * 2) (.string x.1)).set (i * 2 + 1) (.int .i64 x.2) = pcs (L.set i x) := by
  refine pcs_ext (by rw [List.length_set, List.length_set, pcs_len, List.length_set]) (fun j y hj => ?_)
  rw [List.getElem?_set] at hj
  have hl : (pcs L).length = L.length * 2 := pcs_len L
  by_cases hij : i = j
  · subst hij
    rw [if_pos rfl, if_pos hi] at hj
    cases hj
    rw [List.getElem?_set, if_neg (by omega), List.getElem?_set, if_pos rfl, if_pos (by omega), List.getElem?_set, if_pos rfl, if_pos (by rw [List.length_set]; omega)]
    exact ⟨rfl, rfl⟩
  · rw [if_neg hij] at hj
    obtain ⟨a, b⟩ := pcs_at hj
    rw [List.getElem?_set, if_neg (by omega), List.getElem?_set, if_neg (by omega), List.getElem?_set, if_neg (by omega), List.getElem?_set, if_neg (by omega)]
    exact ⟨a, b⟩
theorem owns_set {w : World} {B g cap n i : Nat} {xs : List Value} (h : w.ownsRow B 44 2 (.slice (some ⟨g, 0, none⟩) n cap) n xs) (v : Value) : (w.setCell ⟨g, i, none⟩ v).ownsRow B 44 2 (.slice (some ⟨g, 0, none⟩) n cap) n (xs.set i v) := by
  obtain ⟨h1, ⟨h2, _⟩ | ⟨g', cap', cur, he, h3, h4, h5, h6, h7, h8⟩⟩ := h
  · cases h2
  · cases he
    refine ⟨by rw [List.length_set]; exact h1, Or.inr ⟨g, cap, cur.setIfInBounds i v, rfl, h3, Joins.block_setCell h4 v, h5, h6, by rw [Array.size_setIfInBounds]; exact h7, ?_⟩⟩
    rw [Array.toList_setIfInBounds, ← h8, List.take_set]
theorem set_same {α : Type} {l : List α} {i : Nat} {x : α} (h : l[i]? = some x) : l.set i x = l := by
  apply List.ext_getElem?
  intro j
  rw [List.getElem?_set]
  split
  · next e =>
    subst e
    obtain ⟨hi, _⟩ := List.getElem?_eq_some_iff.1 h
    rw [if_pos hi, h]
  · rfl
/-- A whole place of a row is written. -/
theorem rowS_put {w : World} {B g cap i : Nat} {L : List Sc} (h : RowS w B (.slice (some ⟨g, 0, none⟩) L.length cap) L) (hi : i < L.length) (x : Sc) : RowS ((w.setCell ⟨g, i * 2, none⟩ (.string x.1)).setCell ⟨g, i * 2 + 1, none⟩ (.int .i64 x.2)) B (.slice (some ⟨g, 0, none⟩) L.length cap) (L.set i x) := by
  unfold RowS at *
  have h1 := owns_set h (.string x.1) (i := i * 2)
  have h2 := owns_set h1 (.int .i64 x.2) (i := i * 2 + 1)
  rw [pcs_set_val hi x] at h2
  rw [List.length_set]
  exact h2
/-- A time is written. -/
theorem rowS_time {w : World} {B g cap i : Nat} {L : List Sc} (h : RowS w B (.slice (some ⟨g, 0, none⟩) L.length cap) L) {x : Sc} (hx : L[i]? = some x) (t : Int) : RowS (w.setCell ⟨g, i * 2 + 1, none⟩ (.int .i64 t)) B (.slice (some ⟨g, 0, none⟩) L.length cap) (L.set i (x.1, t)) := by
  obtain ⟨hi, _⟩ := List.getElem?_eq_some_iff.1 hx
  unfold RowS at *
  have h2 := owns_set h (.int .i64 t) (i := i * 2 + 1)
  have e : (pcs L).set (i * 2 + 1) (.int .i64 t) = pcs (L.set i (x.1, t)) := by
    rw [← pcs_set_val hi (x.1, t)]
    congr 1
    have := (pcs_at hx).1
    exact (set_same this).symm
  rw [e] at h2
  rw [List.length_set]
  exact h2
end Go.Proofs.Ytbaghdfalhlhcaa
