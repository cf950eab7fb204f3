/-
  Maps from keys to nodes, as the program keeps them. Premises: keys of at most so many bytes as the model's texts have.
-/
import Derived.Test.YtpbmgaipeofpaaaO
import Derived.Test.YtpbmgaipeofpaaaMathB
import Derived.Maps.OwnSet
import Derived.StringKeys
namespace Go.Proofs.Ytpbmgaipeofpaaa
open Go.RowKit
open Go.Maps (Keyed IsMap Tidy)

/-- A pointer to a block's beginning. -/
abbrev ptr (b : Nat) : Value := .pointer (some ⟨b, 0, none⟩)
theorem keyed : Keyed Try.prog 9 := Maps.string_keyed Try.underlying9
abbrev DN := DataW Unit
def keyL (k : ByteArray) : Lit := .string k.data.toList
theorem keyL_inj {a b : ByteArray} (h : keyL a = keyL b) : a = b := by
  unfold keyL at h
  cases h' : a
  cases h2 : b
  subst h' h2
  simp at h
  congr 1
theorem keyL_lit (k : ByteArray) : WideAt.IsKeyLit (keyL k) := trivial
theorem keyL_of (k : ByteArray) (h : k.size ≤ maxLen) : keyOf Try.prog 9 (.string k) = some (keyL k) := WideMaps.keyOf_string_mk Try.underlying9 h
/-- How a node's pointer reads: by its block's number. -/
def ptrD (b : Nat) : DN := .lit (.int .i64 ((b : Int) + 1))
def ptrR : Value → Option (DN × List MemPlace)
  | .pointer none => some (.lit (.int .i64 0), [])
  | .pointer (some ⟨b, 0, none⟩) => some (ptrD b, [])
  | _ => none
theorem ptrR_of (b : Nat) : ptrR (ptr b) = some (ptrD b, []) := rfl
theorem ptrR_inv {v : Value} {b : Nat} {ps : List MemPlace} (h : ptrR v = some (ptrD b, ps)) : v = ptr b := by
  unfold ptrR at h
  split at h
  · simp [ptrD] at h
    omega
  · next c =>
    simp [ptrD] at h
    obtain rfl : c = b := by omega
    rfl
  · cases h
/-- Block m is a map of n entries; f tells to which node each key leads. -/
def MapAt (w : World) (m n : Nat) (f : ByteArray → Option Nat) : Prop :=
  ∃ D : DN, w.ownsMap Try.prog 9 ptrR m n D ∧ Maps.size D = n ∧ ∀ k, Maps.has D (keyL k) = (f k).isSome ∧ ∀ i, f k = some i → D.atKey (keyL k) (.lit (.int .i64 0)) = ptrD i
theorem owns_tight {w : World} {m n c : Nat} {D : DN} (h : w.ownsMap Try.prog 9 ptrR m n D) (hc : Maps.size D ≤ c) : w.ownsMap Try.prog 9 ptrR m c D := by
  obtain ⟨es, clock, hb, F, hs, rfl⟩ := h
  refine ⟨es, clock, hb, F, ?_, rfl⟩
  simpa [Maps.size, length_sorted] using hc
theorem MapAt.lt {w : World} {m c : Nat} {f : ByteArray → Option Nat} (h : MapAt w m c f) : m < w.heap.size := by
  obtain ⟨D, h, _⟩ := h
  exact h.lt
theorem MapAt.obj {w : World} {m c : Nat} {f : ByteArray → Option Nat} (h : MapAt w m c f) : ∃ es clock, w.heap[m]? = some (.map es clock) := by
  obtain ⟨D, ⟨es, clock, hb, _⟩, _⟩ := h
  exact ⟨es, clock, hb⟩
theorem MapAt.keep {w w' : World} {m c : Nat} {f : ByteArray → Option Nat} {O : List Nat} (h : MapAt w m c f) (ho : Only O w w') (hm : m ∉ O) : MapAt w' m c f := by
  obtain ⟨D, ⟨es, clock, hb, F, hs, rfl⟩, h2⟩ := h
  exact ⟨_, ⟨es, clock, ho.keep hb hm, F, hs, rfl⟩, h2⟩
theorem map_made {w : World} : MapAt (w.alloc (.map #[] 0)) w.heap.size 0 (fun _ => none) :=
  ⟨.map [], World.ownsMap_made _ _ _ _, rfl, fun k => ⟨rfl, fun i hi => by cases hi⟩⟩
theorem zero_ptr (w : World) : (zeroValue 71).run Try.prog w = .ok (.pointer none) w := by kernel_rfl
/-- A look. -/
theorem MapAt.look {w : World} {m c : Nat} {f : ByteArray → Option Nat} (h : MapAt w m c f) (k : ByteArray) (hk : k.size ≤ maxLen) :
    ∃ v : Value, (Instr.lookup 74 (.map (some m)) (.string k) true).run Try.prog w = .ok (.tuple #[v, .bool (f k).isSome]) w ∧ ∀ i, f k = some i → v = ptr i := by
  obtain ⟨D, h1, _, h2⟩ := h
  obtain ⟨v, ps, hr, hv⟩ := h1.look_ok keyed Try.underlying74 (zero_ptr w) (zd := .lit (.int .i64 0)) (zp := []) rfl (keyL_of k hk)
  obtain ⟨k1, k2⟩ := h2 k
  refine ⟨v, by rw [hr, k1], fun i hi => ?_⟩
  rw [k2 i hi] at hv
  exact ptrR_inv hv
theorem MapAt.look1 {w : World} {m c : Nat} {f : ByteArray → Option Nat} (h : MapAt w m c f) (k : ByteArray) (hk : k.size ≤ maxLen) {i : Nat} (hi : f k = some i) :
    (Instr.lookup 74 (.map (some m)) (.string k) false).run Try.prog w = .ok (ptr i) w := by
  obtain ⟨D, h1, _, h2⟩ := h
  obtain ⟨v, ps, hr, hv⟩ := h1.lookup keyed Try.underlying74 (zero_ptr w) (zd := .lit (.int .i64 0)) (zp := []) rfl (keyL_of k hk)
  rw [(h2 k).2 i hi] at hv
  rw [hr, ptrR_inv hv]
theorem MapAt.len {w : World} {m c : Nat} {f : ByteArray → Option Nat} (h : MapAt w m c f) (ty : TypeId) : (Builtin.len_ #[74] ty #[.map (some m)]).run Try.prog w = .ok (.int .i64 (c : Int)) w := by
  obtain ⟨D, h1, hs, h2⟩ := h
  rw [h1.len Try.underlying74, hs]
/-- What is noted behind a note. -/
def note (f : ByteArray → Option Nat) (k : ByteArray) (i : Nat) : ByteArray → Option Nat := fun x => if x = k then some i else f x
theorem note_at (f : ByteArray → Option Nat) (k : ByteArray) (i : Nat) : note f k i k = some i := by unfold note; rw [if_pos rfl]
theorem note_other (f : ByteArray → Option Nat) {k x : ByteArray} (i : Nat) (h : x ≠ k) : note f k i x = f x := by unfold note; rw [if_neg h]
def unnote (f : ByteArray → Option Nat) (k : ByteArray) : ByteArray → Option Nat := fun x => if x = k then none else f x
theorem map_only {w w' : World} {b : Nat} (h : w.mapTurned w' b) : Only [b] w w' := by
  have := grown_only h.grown
  simpa using this
/-- A new key. -/
theorem MapAt.put {w : World} {m c : Nat} {f : ByteArray → Option Nat} (h : MapAt w m c f) (k : ByteArray) (hk : k.size ≤ maxLen) (i : Nat) (hc : c ≤ 4000000) (hf : f k = none) :
    ∃ w', (Instr.mapUpdate 74 (.map (some m)) (.string k) (ptr i)).run Try.prog w = .ok () w' ∧ MapAt w' m (c + 1) (note f k i) ∧ Only [m] w w' := by
  obtain ⟨D, h1, hs, h2⟩ := h
  obtain ⟨w', hr, k1, k2⟩ := h1.store keyed Try.underlying74 (by unfold maxLen; omega) (keyL_of k hk) (ptrR_of i)
  have e : Maps.size (D.put (keyL k) (ptrD i)) = c + 1 := by
    rw [Maps.size_put (h1.tidy keyed), (h2 k).1, hf, hs]
    simp
  refine ⟨w', hr, ⟨D.put (keyL k) (ptrD i), owns_tight k1 (by omega), e, fun x => ?_⟩, map_only k2⟩
  by_cases hx : x = k
  · subst hx
    rw [note_at]
    refine ⟨by rw [Maps.has_put_same h1.isMap (keyL_lit x)]; rfl, fun j hj => ?_⟩
    cases hj
    exact Maps.atKey_put_same h1.isMap (keyL_lit x) _ _
  · have hne : keyL x ≠ keyL k := fun e => hx (keyL_inj e)
    rw [note_other f i hx]
    refine ⟨by rw [Maps.has_put_other hne]; exact (h2 x).1, fun j hj => ?_⟩
    rw [Maps.atKey_put_other hne]
    exact (h2 x).2 j hj
/-- A key goes. -/
theorem MapAt.del {w : World} {m c : Nat} {f : ByteArray → Option Nat} (h : MapAt w m c f) (k : ByteArray) (hk : k.size ≤ maxLen) {i : Nat} (hf : f k = some i) (ty : TypeId) :
    ∃ w', (Builtin.delete_ #[74, 9] ty #[.map (some m), .string k]).run Try.prog w = .ok (.tuple #[]) w' ∧ MapAt w' m (c - 1) (unnote f k) ∧ Only [m] w w' := by
  obtain ⟨D, h1, hs, h2⟩ := h
  obtain ⟨w', hr, k1, k2⟩ := h1.drop keyed Try.underlying74 (keyL_of k hk) ty
  have e := Maps.size_del (k := keyL k) (h1.tidy keyed)
  rw [(h2 k).1, hf] at e
  simp at e
  refine ⟨w', hr, ⟨D.del (keyL k), owns_tight k1 (by omega), by omega, fun x => ?_⟩, map_only k2⟩
  unfold unnote
  by_cases hx : x = k
  · subst hx
    rw [if_pos rfl]
    exact ⟨Maps.has_del_same, fun j hj => by cases hj⟩
  · have hne : keyL x ≠ keyL k := fun e => hx (keyL_inj e)
    rw [if_neg hx]
    refine ⟨by rw [Maps.has_del_other hne]; exact (h2 x).1, fun j hj => ?_⟩
    rw [Maps.atKey_del_other hne]
    exact (h2 x).2 j hj
end Go.Proofs.Ytpbmgaipeofpaaa
