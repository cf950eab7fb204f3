/-
  Maps whose entries are pointers, or none at all, with keys that are texts or numbers: a look, a length, a new entry, an entry that goes, all that go, a range. Premises: keys as the model can have them; fewer than four million entries.
-/
import Derived.Test.YtpbmgaipeofpaaaL
import Derived.Maps.RangeWalk
namespace Go.Proofs.Ytpbmgaipeofpaaa
open Go.RowKit Go.ChangeMaps Go.MapKept Go.WideShapes
open Go.Maps (Keyed IsMap Tidy)

/-- What kind of keys a map has. -/
structure KeyT (α : Type) where
  k : TypeId
  lit : α → Lit
  val : α → Value
  ok : α → Prop
  keyed : Keyed Try.prog k
  inj : ∀ {a b : α}, lit a = lit b → a = b
  isk : ∀ a, WideAt.IsKeyLit (lit a)
  vof : ∀ a, ok a → keyOf Try.prog k (val a) = some (lit a)
  out : ∀ {v : Value} {kl : Lit}, keyOf Try.prog k v = some kl → ∃ a, v = val a ∧ kl = lit a ∧ ok a
def kS : KeyT ByteArray where
  k := 9
  lit := keyL
  val := .string
  ok := fun a => a.size ≤ maxLen
  keyed := keyed
  inj := keyL_inj
  isk := keyL_lit
  vof := keyL_of
  out := fun h => by
    obtain ⟨s, h1, h2, h3⟩ := WideMaps.string_of_keyOf Try.underlying9 h
    exact ⟨s, h1, h2, h3⟩
def kI : KeyT Int where
  k := 3
  lit := .int .i64
  val := .int .i64
  ok := fun a => (Lit.int .i64 a).wf = true
  keyed := Maps.int_keyed Try.underlying3
  inj := fun h => by cases h; rfl
  isk := fun _ => trivial
  vof := fun _ h => Maps.keyOf_int_mk Try.underlying3 h
  out := fun h => by
    obtain ⟨x, h1, h2, h3⟩ := Maps.keyOf_int_inv Try.underlying3 h
    exact ⟨x, h1, h2, h3⟩
theorem kI_ok {n : Int} (h : 0 ≤ n ∧ n ≤ 1000) : kI.ok n := by
  show (decide (IntKind.i64.min ≤ n) && decide (n ≤ IntKind.i64.max)) = true
  have h1 : IntKind.i64.min = -9223372036854775808 := by decide
  have h2 : IntKind.i64.max = 9223372036854775807 := by decide
  rw [h1, h2, decide_eq_true (by omega), decide_eq_true (by omega)]
  rfl
/-- A map's type. -/
structure MapT {α : Type} (K : KeyT α) (t e : TypeId) : Prop where
  ht : Try.prog.underlying t = some (.map K.k e)
  hz : ∀ w, (zeroValue e).run Try.prog w = .ok (.pointer none) w
theorem tC : MapT kS 49 56 := ⟨Try.underlying49, fun w => by kernel_rfl⟩
theorem tR : MapT kI 50 61 := ⟨Try.underlying50, fun w => by kernel_rfl⟩
/-- A pointer, or none. -/
def ptrV : Option Nat → Value
  | none => .pointer none
  | some b => ptr b
def upG {α : Type} [DecidableEq α] (f : α → Option Nat) (x : α) (v : Option Nat) : α → Option Nat := fun y => if y = x then v else f y
section
variable {α : Type} {K : KeyT α} {t e : TypeId} {w w' : World} {n : Nat} {f : α → Option Nat}
/-- Block m is a map of n entries; f tells to which block each key leads; none: no map, and no entry. -/
def MapO (K : KeyT α) (w : World) (cm : Option Nat) (n : Nat) (f : α → Option Nat) : Prop := match cm with
  | none => n = 0 ∧ ∀ x, f x = none
  | some m => ∃ D : DN, w.ownsMap Try.prog K.k ptrR m n D ∧ Maps.size D = n ∧ ∀ x, Maps.has D (K.lit x) = (f x).isSome ∧ ∀ i, f x = some i → D.atKey (K.lit x) (.lit (.int .i64 0)) = ptrD i
theorem ownsK_tight {k : TypeId} {m n c : Nat} {D : DN} (h : w.ownsMap Try.prog k ptrR m n D) (hc : Maps.size D ≤ c) : w.ownsMap Try.prog k ptrR m c D := by
  obtain ⟨es, clock, hb, F, hs, rfl⟩ := h
  refine ⟨es, clock, hb, F, ?_, rfl⟩
  simpa [Maps.size, length_sorted] using hc
theorem MapO.lt {m : Nat} (h : MapO K w (some m) n f) : m < w.heap.size := by
  obtain ⟨D, h, _⟩ := h
  exact h.lt
theorem MapO.obj {m : Nat} (h : MapO K w (some m) n f) : ∃ es clock, w.heap[m]? = some (.map es clock) := by
  obtain ⟨D, ⟨es, clock, hb, _⟩, _⟩ := h
  exact ⟨es, clock, hb⟩
theorem MapO.keep {cm : Option Nat} {O : List Nat} (h : MapO K w cm n f) (ho : Only O w w') (hm : ∀ m, cm = some m → m ∉ O) : MapO K w' cm n f := by
  cases cm with
  | none => exact h
  | some m =>
    obtain ⟨D, ⟨es, clock, hb, F, hs, rfl⟩, h2⟩ := h
    exact ⟨_, ⟨es, clock, ho.keep hb (hm m rfl), F, hs, rfl⟩, h2⟩
theorem MapO.ext {cm : Option Nat} {f' : α → Option Nat} (h : MapO K w cm n f) (hf : ∀ x, f' x = f x) : MapO K w cm n f' := by
  have : f' = f := funext hf
  rw [this]
  exact h
theorem mapO_none : MapO K w none 0 (fun _ => none) := ⟨rfl, fun _ => rfl⟩
theorem mapO_made : MapO K (w.alloc (.map #[] 0)) (some w.heap.size) 0 (fun _ => none) :=
  ⟨.map [], World.ownsMap_made _ _ _ _, rfl, fun k => ⟨rfl, fun i hi => by cases hi⟩⟩
/-- A look. -/
theorem MapO.look {cm : Option Nat} (h : MapO K w cm n f) (T : MapT K t e) (x : α) (hx : K.ok x) (c : Bool) :
    (Instr.lookup t (.map cm) (K.val x) c).run Try.prog w = .ok (if c then .tuple #[ptrV (f x), .bool (f x).isSome] else ptrV (f x)) w := by
  cases cm with
  | none =>
    rw [h.2 x]
    exact Maps.look_nil c K.keyed T.ht (T.hz w) (K.vof x hx)
  | some m =>
    obtain ⟨D, ⟨es, clock, hb, F, _, rfl⟩, _, h2⟩ := h
    obtain ⟨k1, k2⟩ := h2 x
    rcases Maps.fit_look c K.keyed T.ht (T.hz w) hb F (K.vof x hx) with ⟨hrun, _, hat⟩ | ⟨e0, y, _, _, hrun, hRv, hat, _⟩
    · have e1 := Maps.has_false_of_atKey hat
      rw [k1] at e1
      have e2 : f x = none := by
        cases hf : f x with
        | none => rfl
        | some i => rw [hf] at e1; cases e1
      rw [hrun, e2]
      rfl
    · have e1 := Maps.has_true_of_atKey hat
      rw [k1] at e1
      obtain ⟨i, hi⟩ := Option.isSome_iff_exists.1 e1
      have e3 := k2 i hi
      rw [hat] at e3
      obtain ⟨d, ps⟩ := y
      simp only at e3
      subst e3
      have e4 := ptrR_inv hRv
      rw [hrun, e4, hi]
      rfl
theorem MapO.len {cm : Option Nat} (h : MapO K w cm n f) (T : MapT K t e) (ty : TypeId) : (Builtin.len_ #[t] ty #[.map cm]).run Try.prog w = .ok (.int .i64 (n : Int)) w := by
  cases cm with
  | none =>
    obtain ⟨rfl, _⟩ := h
    simp [Builtin.len_, run_underlying T.ht, goInt, Result.andThen]
  | some m =>
    obtain ⟨D, h1, hs, h2⟩ := h
    rw [h1.len T.ht, hs]
/-- A key that is new. -/
theorem MapO.put [DecidableEq α] {m : Nat} (h : MapO K w (some m) n f) (T : MapT K t e) (x : α) (hx : K.ok x) (i : Nat) (hc : n ≤ 4000000) (hf : f x = none) :
    ∃ w', (Instr.mapUpdate t (.map (some m)) (K.val x) (ptr i)).run Try.prog w = .ok () w' ∧ MapO K w' (some m) (n + 1) (upG f x (some i)) ∧ Only [m] w w' := by
  obtain ⟨D, h1, hs, h2⟩ := h
  obtain ⟨w', hr, k1, k2⟩ := h1.store K.keyed T.ht (by unfold maxLen; omega) (K.vof x hx) (ptrR_of i)
  have e : Maps.size (D.put (K.lit x) (ptrD i)) = n + 1 := by
    rw [Maps.size_put (h1.tidy K.keyed), (h2 x).1, hf, hs]
    simp
  refine ⟨w', hr, ⟨D.put (K.lit x) (ptrD i), ownsK_tight k1 (by omega), e, fun y => ?_⟩, map_only k2⟩
  unfold upG
  by_cases hy : y = x
  · subst hy
    rw [if_pos rfl]
    refine ⟨by rw [Maps.has_put_same h1.isMap (K.isk y)]; rfl, fun j hj => ?_⟩
    cases hj
    exact Maps.atKey_put_same h1.isMap (K.isk y) _ _
  · have hne : K.lit y ≠ K.lit x := fun e => hy (K.inj e)
    rw [if_neg hy]
    refine ⟨by rw [Maps.has_put_other hne]; exact (h2 y).1, fun j hj => ?_⟩
    rw [Maps.atKey_put_other hne]
    exact (h2 y).2 j hj
/-- A key goes, be it there or not. -/
theorem MapO.del [DecidableEq α] {cm : Option Nat} (h : MapO K w cm n f) (T : MapT K t e) (x : α) (hx : K.ok x) (ty : TypeId) :
    ∃ w', (Builtin.delete_ #[t, K.k] ty #[.map cm, K.val x]).run Try.prog w = .ok (.tuple #[]) w' ∧ MapO K w' cm (if (f x).isSome then n - 1 else n) (upG f x none) ∧ Only cm.toList w w' := by
  cases cm with
  | none =>
    have h0 := h.2 x
    refine ⟨w, Maps.drop_nil K.keyed T.ht (K.vof x hx) ty, ?_, Only.refl _ _⟩
    rw [h0]
    refine ⟨h.1, fun y => ?_⟩
    unfold upG
    rw [h.2 y]
    split <;> rfl
  | some m =>
    obtain ⟨D, h1, hs, h2⟩ := h
    obtain ⟨w', hr, k1, k2⟩ := h1.drop K.keyed T.ht (K.vof x hx) ty
    have e := Maps.size_del (k := K.lit x) (h1.tidy K.keyed)
    rw [(h2 x).1, hs] at e
    have e2 : Maps.size (D.del (K.lit x)) = if (f x).isSome then n - 1 else n := by
      split
      · next hs1 => rw [if_pos hs1] at e; omega
      · next hs1 => rw [if_neg hs1] at e; omega
    refine ⟨w', hr, ⟨D.del (K.lit x), ownsK_tight k1 (by omega), e2, fun y => ?_⟩, map_only k2⟩
    unfold upG
    by_cases hy : y = x
    · subst hy
      rw [if_pos rfl]
      exact ⟨Maps.has_del_same, fun j hj => by cases hj⟩
    · have hne : K.lit y ≠ K.lit x := fun e => hy (K.inj e)
      rw [if_neg hy]
      refine ⟨by rw [Maps.has_del_other hne]; exact (h2 y).1, fun j hj => ?_⟩
      rw [Maps.atKey_del_other hne]
      exact (h2 y).2 j hj
/-- All go. -/
theorem MapO.clear {cm : Option Nat} (h : MapO K w cm n f) (T : MapT K t e) (ty : TypeId) :
    ∃ w', (Builtin.clear_ #[t] ty #[.map cm]).run Try.prog w = .ok (.tuple #[]) w' ∧ MapO K w' cm 0 (fun _ : α => none) ∧ Only cm.toList w w' := by
  cases cm with
  | none =>
    refine ⟨w, ?_, ⟨rfl, fun _ => rfl⟩, Only.refl _ _⟩
    simp [Builtin.clear_, run_underlying T.ht, Result.andThen]
  | some m =>
    obtain ⟨D, ⟨es, clock, hb, F, _, rfl⟩, _, h2⟩ := h
    refine ⟨ChangeMaps.setBlock w m (.map #[] clock), ?_, ⟨.map [], ⟨#[], clock, heap_setBlock_same hb _, ⟨by simp, ?_, by simp⟩, by simp, rfl⟩, rfl, fun x => ⟨rfl, fun i hi => by cases hi⟩⟩, map_only ⟨es, clock, #[], clock, hb, rfl⟩⟩
    · simp [Builtin.clear_, run_underlying T.ht, MapKept.run_getObj_map hb, MapKept.run_setObj_map _ hb, Result.andThen, ChangeMaps.setBlock]
    · exact (stamped_iff _ _).2 ⟨by simp, by simp, by simp⟩
end
end Go.Proofs.Ytpbmgaipeofpaaa
