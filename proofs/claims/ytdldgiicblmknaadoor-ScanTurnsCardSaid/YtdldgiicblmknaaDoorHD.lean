/-
  What a table's blocks are, whole; that nothing but they are written. Mathematics; no condition.
-/
import Derived.Test.YtdldgiicblmknaaDoorHC
import Derived.Lib.SmallJoins
namespace Go.Proofs.YtdldgiicblmknaaDoor
open Go.RowKit

/-- Nothing is written but the blocks of a list, and new ones. -/
def Only (O : List Nat) (w w' : World) : Prop := Below 0 w w' ∧ ∀ k, k < w.heap.size → k ∉ O → w'.heap[k]? = w.heap[k]?
theorem Only.refl (O : List Nat) (w : World) : Only O w w := ⟨Below.refl _ _, fun _ _ _ => rfl⟩
theorem Only.size {O : List Nat} {w w' : World} (h : Only O w w') : w.heap.size ≤ w'.heap.size := h.1.size
theorem Only.trans {O O' : List Nat} {a b c : World} (h : Only O a b) (k : Only O' b c) (hO : ∀ x ∈ O', x ∈ O ∨ a.heap.size ≤ x) : Only O a c := by
  refine ⟨h.1.trans k.1, fun x hx hn => ?_⟩
  have := h.size
  rw [k.2 x (by omega) (fun hm => (hO x hm).elim hn (fun h1 => by omega)), h.2 x hx hn]
theorem Only.set {O : List Nat} {a w : World} (h : Only O a w) {p : Addr} (hp : p.block ∈ O ∨ a.heap.size ≤ p.block) (v : Value) : Only O a (w.setCell p v) := by
  refine ⟨h.1.setCell (Nat.zero_le _) v, fun x hx hn => ?_⟩
  rw [Below.heap_setCell _ _ _ _ (fun e => by subst e; exact hp.elim hn (fun h1 => by omega)), h.2 x hx hn]
theorem Only.alloc {O : List Nat} {a w : World} (h : Only O a w) (o : Obj) : Only O a (w.alloc o) := by
  have := h.size
  exact ⟨h.1.alloc (Nat.zero_le _) o, fun x hx hn => by rw [Below.heap_alloc _ _ _ (by omega), h.2 x hx hn]⟩
theorem Only.drewN {O : List Nat} {a w : World} (h : Only O a w) (n : Nat) : Only O a (w.drewN n) := ⟨below_drewN h.1 n, fun x hx hn => h.2 x hx hn⟩
theorem Only.below {O : List Nat} {w w' : World} {B : Nat} (h : Only O w w') (hB : B ≤ w.heap.size) (hO : ∀ k ∈ O, B ≤ k) : Below B w w' :=
  ⟨h.1.os, h.1.tape, h.1.output, h.1.size, fun k hk => h.2 k (by omega) (fun hm => by have := hO k hm; omega)⟩
theorem Only.keep {O : List Nat} {w w' : World} (h : Only O w w') {k : Nat} {o : Obj} (hk : w.heap[k]? = some o) (hn : k ∉ O) : w'.heap[k]? = some o := by
  have hlt : k < w.heap.size := by
    rcases Nat.lt_or_ge k w.heap.size with h1 | h1
    · exact h1
    · rw [Array.getElem?_eq_none h1] at hk; cases hk
  rw [h.2 k hlt hn, hk]
theorem Only.mono {O O' : List Nat} {w w' : World} (h : Only O w w') (hO : ∀ x ∈ O, x ∈ O') : Only O' w w' := ⟨h.1, fun k hk hn => h.2 k hk (fun hm => hn (hO k hm))⟩
theorem some_lt {w : World} {k : Nat} {o : Obj} (hk : w.heap[k]? = some o) : k < w.heap.size := by
  rcases Nat.lt_or_ge k w.heap.size with h1 | h1
  · exact h1
  · rw [Array.getElem?_eq_none h1] at hk; cases hk

/-- A table: its blocks and what they hold; ext: a chain that no place points to. -/
structure Tb where
  T : Nat
  seed : Int
  p0 : Option Nat
  p1 : Option Nat
  old : List (List En)
  new : List (List En)
  moved : Nat
  count : Nat
  ext : List En
def adr (p : Option Nat) : Option Addr := p.map fun b => ⟨b, 0, none⟩
def Tb.head (X : Tb) : Obj := .cells #[.int .u64 X.seed, .slice (adr X.p0) X.old.length X.old.length, .slice (adr X.p1) X.new.length X.new.length, .int .i64 X.moved, .int .i64 X.count] 60 (0, 0)
def Tb.objs (X : Tb) : List (Nat × Obj) := (X.T, X.head) :: (X.p0.toList.map (fun b => (b, plObj X.old)) ++ (X.p1.toList.map (fun b => (b, plObj X.new)) ++ (X.old.flatMap chObjs ++ (X.new.flatMap chObjs ++ chObjs X.ext))))
def Tb.ents (X : Tb) : List En := X.old.flatten ++ (X.new.flatten ++ X.ext)
def Tb.blocks (X : Tb) : List Nat := X.T :: (X.p0.toList ++ (X.p1.toList ++ X.ents.map Prod.fst))
theorem chObjs_fst (L : List En) : (chObjs L).map Prod.fst = L.map Prod.fst := by
  induction L with
  | nil => rfl
  | cons e L ih => simp [chObjs, ih]
theorem flat_fst (l : List (List En)) : (l.flatMap chObjs).map Prod.fst = l.flatten.map Prod.fst := by
  induction l with
  | nil => rfl
  | cons c l ih => simp [chObjs_fst, ih]
theorem objs_fst (X : Tb) : X.objs.map Prod.fst = X.blocks := by
  simp [Tb.objs, Tb.blocks, Tb.ents, chObjs_fst, flat_fst, Function.comp_def]

/-- A table lies in memory, each block once. -/
structure Here (X : Tb) (w : World) : Prop where
  at_ : ∀ q ∈ X.objs, w.heap[q.1]? = some q.2
  sep : X.blocks.Nodup
  p0 : X.p0 = none ↔ X.old = []
  p1 : X.p1 = none ↔ X.new = []
theorem Here.tab {X : Tb} {w : World} (h : Here X w) : TabC w X.T X.seed (adr X.p0) (adr X.p1) X.old.length X.new.length X.moved X.count := h.at_ _ (List.mem_cons_self ..)
theorem mem_old {X : Tb} {c : List En} (hc : c ∈ X.old) {q : Nat × Obj} (hq : q ∈ chObjs c) : q ∈ X.objs := by
  unfold Tb.objs
  simp only [List.mem_cons, List.mem_append, List.mem_flatMap]
  exact Or.inr (Or.inr (Or.inr (Or.inl ⟨c, hc, hq⟩)))
theorem mem_new {X : Tb} {c : List En} (hc : c ∈ X.new) {q : Nat × Obj} (hq : q ∈ chObjs c) : q ∈ X.objs := by
  unfold Tb.objs
  simp only [List.mem_cons, List.mem_append, List.mem_flatMap]
  exact Or.inr (Or.inr (Or.inr (Or.inr (Or.inl ⟨c, hc, hq⟩))))
theorem mem_ext {X : Tb} {q : Nat × Obj} (hq : q ∈ chObjs X.ext) : q ∈ X.objs := by
  unfold Tb.objs
  simp only [List.mem_cons, List.mem_append]
  exact Or.inr (Or.inr (Or.inr (Or.inr (Or.inr hq))))
theorem mem_p0 {X : Tb} {b : Nat} (hb : X.p0 = some b) : (b, plObj X.old) ∈ X.objs := by
  unfold Tb.objs
  simp [hb]
theorem mem_p1 {X : Tb} {b : Nat} (hb : X.p1 = some b) : (b, plObj X.new) ∈ X.objs := by
  unfold Tb.objs
  simp [hb]
theorem Here.half0 {X : Tb} {w : World} (h : Here X w) : HalfAt w (adr X.p0) X.old := by
  cases hp : X.p0 with
  | none => exact Or.inl ⟨rfl, h.p0.1 hp⟩
  | some b =>
    refine Or.inr ⟨b, rfl, ?_, h.at_ _ (mem_p0 hp), fun c hc q hq => h.at_ q (mem_old hc hq)⟩
    cases ho : X.old with
    | nil => have := h.p0.2 ho; rw [hp] at this; cases this
    | cons c l => simp
theorem Here.half1 {X : Tb} {w : World} (h : Here X w) : HalfAt w (adr X.p1) X.new := by
  cases hp : X.p1 with
  | none => exact Or.inl ⟨rfl, h.p1.1 hp⟩
  | some b =>
    refine Or.inr ⟨b, rfl, ?_, h.at_ _ (mem_p1 hp), fun c hc q hq => h.at_ q (mem_new hc hq)⟩
    cases ho : X.new with
    | nil => have := h.p1.2 ho; rw [hp] at this; cases this
    | cons c l => simp
theorem Here.lt {X : Tb} {w : World} (h : Here X w) {b : Nat} (hb : b ∈ X.blocks) : b < w.heap.size := by
  rw [← objs_fst] at hb
  obtain ⟨q, hq, rfl⟩ := List.mem_map.1 hb
  exact some_lt (h.at_ q hq)
/-- What is not written stays; what is written is said. -/
theorem Here.turn {X X' : Tb} {w w' : World} {O : List Nat} (h : Here X w) (ho : Only O w w') (hs : X'.blocks.Nodup) (h0 : X'.p0 = none ↔ X'.old = []) (h1 : X'.p1 = none ↔ X'.new = [])
    (hq : ∀ q ∈ X'.objs, w'.heap[q.1]? = some q.2 ∨ (q ∈ X.objs ∧ q.1 ∉ O)) : Here X' w' :=
  ⟨fun q hm => (hq q hm).elim id (fun h2 => ho.keep (h.at_ q h2.1) h2.2), hs, h0, h1⟩
theorem Here.on {X : Tb} {w w' : World} {O : List Nat} (h : Here X w) (ho : Only O w w') (hd : ∀ b ∈ X.blocks, b ∉ O) : Here X w' :=
  h.turn ho h.sep h.p0 h.p1 fun q hq => Or.inr ⟨hq, hd _ (by rw [← objs_fst]; exact List.mem_map_of_mem hq)⟩

end Go.Proofs.YtdldgiicblmknaaDoor
