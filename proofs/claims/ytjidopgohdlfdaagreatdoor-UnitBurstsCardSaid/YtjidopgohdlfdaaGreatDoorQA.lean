/-
  How what came lies in memory: the arguments so far, the whole requests, the block in which both are held. No condition.
-/
import Derived.Test.YtjidopgohdlfdaaGreatDoorLH
import Derived.Test.YtjidopgohdlfdaaGreatDoorWalksF
import Derived.Test.YtjidopgohdlfdaaGreatDoorPMathD
import Derived.Deep.AppendLies
import Derived.Deep.RegionLaw
import Derived.Maps.AppendAt
import Derived.Great.BuildSlice
namespace Go.Proofs.YtjidopgohdlfdaaGreatDoor
open Go.RowKit Dec Pq S4

theorem block_of_add (a : Addr) (n : Nat) : (a.add n).block = a.block := by unfold Addr.add; split <;> rfl
/-- A request as it lies in memory. -/
abbrev MR := List ByteArray × Nat
def rq (p : MR) : Rq := (txt p.1, p.2)
/-- A row of texts that is read, in blocks of which 'ok' is true. -/
def SOk (W : World) (ok : Nat → Prop) (A : Option Addr) (ss : List ByteArray) : Prop := ∀ i x, ss[i]? = some x → ∃ a, A = some a ∧ ok a.block ∧ a.block < W.heap.size ∧ W.cell? (a.add i) = some (.string x)
theorem SOk.keep {W W' : World} {ok ok' : Nat → Prop} {A : Option Addr} {ss : List ByteArray} (h : SOk W ok A ss) (hk : ∀ b, ok b → b < W.heap.size → W'.heap[b]? = W.heap[b]?) (hs : W.heap.size ≤ W'.heap.size)
    (hok : ∀ b, ok b → b < W.heap.size → ok' b) : SOk W' ok' A ss := by
  intro i x hx
  obtain ⟨a, h1, h2, h3, h4⟩ := h i x hx
  exact ⟨a, h1, hok _ h2 h3, by omega, (World.cell?_of_block (a := a.add i) (by rw [block_of_add]; exact hk _ h2 h3)).trans h4⟩
theorem SOk.on {W W' : World} {ok : Nat → Prop} {A : Option Addr} {ss : List ByteArray} (h : SOk W ok A ss) (hb : Below W.heap.size W W') : SOk W' ok A ss :=
  h.keep (fun b _ hl => hb.block b hl) hb.size (fun _ h _ => h)
theorem own_sok {W : World} {base : Nat} {u : Value} {ss : List ByteArray} (h : W.ownsRow base 9 1 u ss.length (strV ss)) : ∃ A cap, u = .slice A ss.length cap ∧ ss.length ≤ cap ∧ SOk W (fun b => u.ownBlock = some b) A ss := by
  rcases h.2 with ⟨hv, h0⟩ | ⟨g, cap, cur, hv, hbg, hg, hle, _⟩
  · exact ⟨none, 0, by rw [hv, h0], by omega, fun i x hx => by
      rw [List.eq_nil_of_length_eq_zero h0] at hx
      simp at hx⟩
  · have hob : u.ownBlock = some g := by rw [hv]; rfl
    refine ⟨some ⟨g, 0, none⟩, cap, hv, hle, fun i x hx => ⟨⟨g, 0, none⟩, rfl, hob, (h.lt g hob).2, ?_⟩⟩
    exact h.cells hob i (.string x) (by simp [strV, hx])
/-- A request's two cells. -/
def RqAt (W : World) (ok : Nat → Prop) (p : MR) (cs : List Value) : Prop := ∃ A cap, cs = [.slice A p.1.length cap, .int .i64 p.2] ∧ p.1 ≠ [] ∧ SOk W ok A p.1
theorem RqAt.keep {W W' : World} {ok ok' : Nat → Prop} {p : MR} {cs : List Value} (h : RqAt W ok p cs) (hk : ∀ b, ok b → b < W.heap.size → W'.heap[b]? = W.heap[b]?) (hs : W.heap.size ≤ W'.heap.size)
    (hok : ∀ b, ok b → b < W.heap.size → ok' b) : RqAt W' ok' p cs := by
  obtain ⟨A, cap, h1, h2, h3⟩ := h
  exact ⟨A, cap, h1, h2, h3.keep hk hs hok⟩
/-- Whole requests that are read. -/
def Rqs (W : World) (ok : Nat → Prop) (A : Option Addr) (q : List MR) : Prop := ∀ (i : Nat) p, q[i]? = some p → ∃ a c0 c1, A = some a ∧ ok a.block ∧ a.block < W.heap.size ∧
  W.cell? (a.add (i * 2)) = some c0 ∧ W.cell? ⟨(a.add (i * 2)).block, (a.add (i * 2)).off + 1, none⟩ = some c1 ∧ RqAt W ok p [c0, c1]
theorem Rqs.keep {W W' : World} {ok ok' : Nat → Prop} {A : Option Addr} {q : List MR} (h : Rqs W ok A q) (hk : ∀ b, ok b → b < W.heap.size → W'.heap[b]? = W.heap[b]?) (hs : W.heap.size ≤ W'.heap.size)
    (hok : ∀ b, ok b → b < W.heap.size → ok' b) : Rqs W' ok' A q := by
  intro i p hp
  obtain ⟨a, c0, c1, h1, h2, h3, h4, h5, h6⟩ := h i p hp
  refine ⟨a, c0, c1, h1, hok _ h2 h3, by omega, (World.cell?_of_block (by rw [block_of_add]; exact hk _ h2 h3)).trans h4, (World.cell?_of_block (a := ⟨(a.add (i * 2)).block, (a.add (i * 2)).off + 1, none⟩) (by rw [block_of_add]; exact hk _ h2 h3)).trans h5, h6.keep hk hs hok⟩
theorem Rqs.on {W W' : World} {ok : Nat → Prop} {A : Option Addr} {q : List MR} (h : Rqs W ok A q) (hb : Below W.heap.size W W') : Rqs W' ok A q :=
  h.keep (fun b _ hl => hb.block b hl) hb.size (fun _ h _ => h)

/-- Blocks that are none of the two rows' own, nor the holder's. -/
def Free (base g : Nat) (u v : Value) (b : Nat) : Prop := base ≤ b ∧ b ≠ g ∧ u.ownBlock ≠ some b ∧ v.ownBlock ≠ some b
/-- The arguments so far (u) and the whole requests (v), held in the block g. -/
structure Held (w0 : World) (g : Nat) (u v : Value) (ss : List ByteArray) (q : List MR) (W : World) : Prop where
  args : W.ownsRow w0.heap.size 9 1 u ss.length (strV ss)
  whole : ∃ css : List (List Value), W.ownsRow w0.heap.size 69 2 v q.length css.flatten ∧ css.length = q.length ∧ (∀ c ∈ css, c.length = 2) ∧
    ∀ (i : Nat) p, q[i]? = some p → ∃ cs, css[i]? = some cs ∧ RqAt W (Free w0.heap.size g u v) p cs
  gu : u.ownBlock ≠ some g
  gv : v.ownBlock ≠ some g
  uv : ∀ b, u.ownBlock = some b → v.ownBlock ≠ some b
  bel : Below w0.heap.size w0 W
  lt : g < W.heap.size
  ge : w0.heap.size ≤ g
section
variable {w0 W W' : World} {g : Nat} {u v : Value} {ss : List ByteArray} {q : List MR}
theorem Held.move (h : Held w0 g u v ss q W) (hg : W.grownBy W' (some g)) (hb : Below w0.heap.size w0 W') : Held w0 g u v ss q W' := by
  obtain ⟨css, h1, h2, h3, h4⟩ := h.whole
  refine ⟨h.args.kept hg (Or.inr h.gu), ⟨css, h1.kept hg (Or.inr h.gv), h2, h3, fun i p hp => ?_⟩, h.gu, h.gv, h.uv, hb, Nat.lt_of_lt_of_le h.lt hg.size, h.ge⟩
  obtain ⟨cs, hc, hr⟩ := h4 i p hp
  exact ⟨cs, hc, hr.keep (fun b hf hl => hg.block b hl (fun e => hf.2.1 (Option.some.inj e))) hg.size (fun _ h _ => h)⟩
theorem grown_poke (W : World) (g j : Nat) (x : Value) : W.grownBy (W.setCell ⟨g, j, none⟩ x) (some g) :=
  ⟨rfl, rfl, rfl, by simp, fun i _ hi => Below.heap_setCell _ _ _ _ (fun e => hi (by rw [e]))⟩
theorem Held.poke (h : Held w0 g u v ss q W) (j : Nat) (x : Value) : Held w0 g u v ss q (W.setCell ⟨g, j, none⟩ x) :=
  h.move (grown_poke W g j x) (h.bel.setCell (p := ⟨g, j, none⟩) h.ge _)
theorem grown_on {W W' : World} (h : Below W.heap.size W W') (r : Option Nat) : W.grownBy W' r := ⟨h.os, h.tape, h.output, h.size, fun i hi _ => h.block i hi⟩
theorem Held.on (h : Held w0 g u v ss q W) (hb : Below W.heap.size W W') : Held w0 g u v ss q W' :=
  h.move (grown_on hb _) (h.bel.trans (hb.mono h.bel.size))
theorem Held.start (w0 : World) (W : World) (g : Nat) (hb : Below w0.heap.size w0 W) (hl : g < W.heap.size) (hg : w0.heap.size ≤ g) : Held w0 g (.slice none 0 0) (.slice none 0 0) [] [] W :=
  ⟨World.ownsRow_nil _ _ _ _, ⟨[], World.ownsRow_nil _ _ _ _, rfl, by simp, fun i p h => by simp at h⟩, by simp [Value.ownBlock], by simp [Value.ownBlock], by simp [Value.ownBlock], hb, hl, hg⟩
/-- The arguments' row let go. -/
theorem Held.drop (h : Held w0 g u v ss q W) : Held w0 g (.slice none 0 0) v [] q W := by
  obtain ⟨css, h1, h2, h3, h4⟩ := h.whole
  refine ⟨World.ownsRow_nil _ _ _ _, ⟨css, h1, h2, h3, fun i p hp => ?_⟩, by simp [Value.ownBlock], h.gv, by simp [Value.ownBlock], h.bel, h.lt, h.ge⟩
  obtain ⟨cs, hc, hr⟩ := h4 i p hp
  exact ⟨cs, hc, hr.keep (fun _ _ _ => rfl) (Nat.le_refl _) (fun b hf _ => ⟨hf.1, hf.2.1, by simp [Value.ownBlock], hf.2.2.2⟩)⟩
/-- A row of arguments taken up. -/
theorem Held.take (h : Held w0 g (.slice none 0 0) v [] q W) (hb : Below W.heap.size W W') (hown : W'.ownsRow W.heap.size 9 1 u ss.length (strV ss)) : Held w0 g u v ss q W' := by
  have h' := h.on hb
  have hu : ∀ b, u.ownBlock = some b → W.heap.size ≤ b := fun b e => (hown.lt b e).1
  have hown2 : W'.ownsRow w0.heap.size 9 1 u ss.length (strV ss) := by
    refine ⟨hown.1, ?_⟩
    rcases hown.2 with h0 | ⟨b, cap, cur, e1, e2, e3⟩
    · exact Or.inl h0
    · exact Or.inr ⟨b, cap, cur, e1, Nat.le_trans h.bel.size e2, e3⟩
  obtain ⟨css, h1, h2, h3, h4⟩ := h.whole
  have hvW : ∀ b, v.ownBlock = some b → b < W.heap.size := fun b e => (h1.lt b e).2
  obtain ⟨css', k1, k2, k3, k4⟩ := h'.whole
  refine ⟨hown2, ⟨css, h1.kept (grown_on hb (some W'.heap.size)) (Or.inr fun e => by have := hvW _ e; have := hb.size; omega), h2, h3, fun i p hp => ?_⟩, fun e => by have := hu _ e; have := h.lt; omega, h.gv, fun b e e2 => by have := hu b e; have := hvW b e2; omega, h'.bel, h'.lt, h.ge⟩
  obtain ⟨cs, hc, hr⟩ := h4 i p hp
  exact ⟨cs, hc, hr.keep (fun b _ hl => hb.block b hl) hb.size (fun b hf hl => ⟨hf.1, hf.2.1, fun e => by have := hu b e; omega, hf.2.2.2⟩)⟩
/-- One argument more. -/
theorem Held.arg {x : ByteArray} {n cap gb : Nat} (h : Held w0 g u v ss q W) (hown : W'.ownsRow w0.heap.size 9 1 (.slice (some ⟨gb, 0, none⟩) n cap) (ss.length + 1) (strV ss ++ [.string x])) (hg : W.grownBy W' u.ownBlock)
    (hat : u.ownBlock = some gb ∨ gb = W.heap.size) : Held w0 g (.slice (some ⟨gb, 0, none⟩) n cap) v (ss ++ [x]) q W' := by
  have ho : (Value.slice (some ⟨gb, 0, none⟩) n cap).ownBlock = some gb := rfl
  have hne : ∀ b, b < W.heap.size → u.ownBlock ≠ some b → gb ≠ b := fun b hl hn e => by
    subst e
    rcases hat with h | h
    · exact hn h
    · omega
  have hgb : w0.heap.size ≤ gb := (hown.lt gb ho).1
  have hbel : Below w0.heap.size w0 W' := h.bel.grown hg h.bel.size (fun k hk => (h.args.lt k hk).1)
  obtain ⟨css, h1, h2, h3, h4⟩ := h.whole
  have hvW : ∀ b, v.ownBlock = some b → b < W.heap.size := fun b e => (h1.lt b e).2
  refine ⟨by simpa [strV] using hown, ⟨css, h1.kept hg ?_, h2, h3, fun i p hp => ?_⟩, ?_, h.gv, ?_, hbel, Nat.lt_of_lt_of_le h.lt hg.size, h.ge⟩
  · cases hv : v.ownBlock with
    | none => exact Or.inl rfl
    | some b => exact Or.inr fun e => h.uv b e.symm hv
  · obtain ⟨cs, hc, hr⟩ := h4 i p hp
    refine ⟨cs, hc, hr.keep (fun b hf hl => hg.block b hl (fun e => hf.2.2.1 e.symm)) hg.size (fun b hf hl => ⟨hf.1, hf.2.1, ?_, hf.2.2.2⟩)⟩
    rw [ho]
    exact fun e => hne b hl hf.2.2.1 (Option.some.inj e)
  · rw [ho]; exact fun e => hne g h.lt h.gu (Option.some.inj e)
  · intro b e e2
    rw [ho] at e
    obtain rfl := Option.some.inj e
    have := hvW _ e2
    exact hne gb this (fun e3 => h.uv gb e3 e2) rfl
/-- One whole request more: the arguments so far are its own. -/
theorem Held.fin {A : Option Addr} {m cap cap' gb size : Nat} {css : List (List Value)} (h : Held w0 g u v ss q W) (hu : u = .slice A ss.length cap') (hne : ss ≠ [])
    (hcl : css.length = q.length) (hc2 : ∀ c ∈ css, c.length = 2) (hcs : ∀ (i : Nat) p, q[i]? = some p → ∃ cs, css[i]? = some cs ∧ RqAt W (Free w0.heap.size g u v) p cs)
    (hv : ∀ b, v.ownBlock = some b → w0.heap.size ≤ b ∧ b < W.heap.size)
    (hown : W'.ownsRow w0.heap.size 69 2 (.slice (some ⟨gb, 0, none⟩) m cap) (q.length + 1) (css.flatten ++ [.slice A ss.length cap', .int .i64 size])) (hg : W.grownBy W' v.ownBlock)
    (hat : v.ownBlock = some gb ∨ gb = W.heap.size) : Held w0 g (.slice none 0 0) (.slice (some ⟨gb, 0, none⟩) m cap) [] (q ++ [(ss, size)]) W' := by
  have ho : (Value.slice (some ⟨gb, 0, none⟩) m cap).ownBlock = some gb := rfl
  have hdif : ∀ b, b < W.heap.size → v.ownBlock ≠ some b → gb ≠ b := fun b hl hn e => by
    subst e
    rcases hat with h | h
    · exact hn h
    · omega
  have hbel : Below w0.heap.size w0 W' := h.bel.grown hg h.bel.size (fun k hk => (hv k hk).1)
  have hfree : ∀ b, b < W.heap.size → w0.heap.size ≤ b → b ≠ g → v.ownBlock ≠ some b → Free w0.heap.size g (.slice none 0 0) (.slice (some ⟨gb, 0, none⟩) m cap) b := fun b hl h1 h2 h3 =>
    ⟨h1, h2, by simp [Value.ownBlock], by rw [ho]; exact fun e => hdif b hl h3 (Option.some.inj e)⟩
  refine ⟨World.ownsRow_nil _ _ _ _, ⟨css ++ [[.slice A ss.length cap', .int .i64 size]], by simpa using hown, by simp [hcl], ?_, fun i p hp => ?_⟩, by simp [Value.ownBlock], ?_, by simp [Value.ownBlock], hbel, Nat.lt_of_lt_of_le h.lt hg.size, h.ge⟩
  · intro c hc
    rcases List.mem_append.1 hc with hc | hc
    · exact hc2 c hc
    · rw [List.mem_singleton.1 hc]; rfl
  · by_cases hi : i < q.length
    · rw [List.getElem?_append_left hi] at hp
      obtain ⟨cs, hc, hr⟩ := hcs i p hp
      refine ⟨cs, by rw [List.getElem?_append_left (by omega)]; exact hc, hr.keep (fun b hf hl => hg.block b hl (fun e => hf.2.2.2 e.symm)) hg.size (fun b hf hl => hfree b hl hf.1 hf.2.1 hf.2.2.2)⟩
    · have hl : i < (q ++ [(ss, size)]).length := (List.getElem?_eq_some_iff.1 hp).1
      simp at hl
      obtain rfl : i = q.length := by omega
      rw [List.getElem?_append_right (Nat.le_refl _)] at hp
      simp at hp
      subst hp
      refine ⟨[.slice A ss.length cap', .int .i64 size], by rw [List.getElem?_append_right (by omega), hcl]; simp, A, cap', rfl, hne, ?_⟩
      obtain ⟨A2, c2, hu2, _, hs⟩ := own_sok h.args
      rw [hu] at hu2
      obtain ⟨rfl, -, -⟩ : A = A2 ∧ ss.length = ss.length ∧ cap' = c2 := by simpa using hu2
      refine hs.keep (fun b hf hl => hg.block b hl (fun e => h.uv b hf e.symm)) hg.size (fun b hf hl => hfree b hl (h.args.lt b hf).1 (fun e => h.gu (by rw [← e]; exact hf)) (h.uv b hf))
  · rw [ho]; exact fun e => hdif g h.lt h.gv (Option.some.inj e)
end
theorem flat_get2 (css : List (List Value)) (h : ∀ c ∈ css, c.length = 2) : ∀ (i j : Nat) (cs : List Value), css[i]? = some cs → j < 2 → css.flatten[i * 2 + j]? = cs[j]? := by
  induction css with
  | nil => intro i j cs hi; simp at hi
  | cons c css ih =>
    intro i j cs hi hj
    have hc := h c (by simp)
    cases i with
    | zero =>
      simp at hi
      subst hi
      rw [List.flatten_cons, List.getElem?_append_left (by omega), Nat.zero_mul, Nat.zero_add]
    | succ i =>
      rw [List.flatten_cons, List.getElem?_append_right (by omega), ← ih (fun c hc => h c (by simp [hc])) i j cs (by simpa using hi) hj]
      congr 1
      omega
/-- What is held of whole requests reads so. -/
theorem Held.rqs {w0 W : World} {g : Nat} {u v : Value} {ss : List ByteArray} {q : List MR} (h : Held w0 g u v ss q W) : ∃ A cap, v = .slice A q.length cap ∧ (q = [] → A = none → cap = 0) ∧ Rqs W (fun b => w0.heap.size ≤ b) A q := by
  obtain ⟨css, h1, h2, h3, h4⟩ := h.whole
  rcases h1.2 with ⟨hv, h0⟩ | ⟨b, cap, cur, hv, hbg, hg, hle, _⟩
  · have hq := List.eq_nil_of_length_eq_zero h0
    exact ⟨none, 0, by rw [hv, h0], fun _ _ => rfl, fun i p hp => by rw [hq] at hp; simp at hp⟩
  · have hob : v.ownBlock = some b := by rw [hv]; rfl
    refine ⟨some ⟨b, 0, none⟩, cap, hv, (fun _ e => nomatch e), fun i p hp => ?_⟩
    obtain ⟨ds, hd, hr⟩ := h4 i p hp
    obtain ⟨A2, c2, hds, hne, hs⟩ := hr
    subst hds
    have hcell : ∀ j x, [Value.slice A2 p.1.length c2, Value.int .i64 p.2][j]? = some x → W.cell? ⟨b, i * 2 + j, none⟩ = some x := by
      intro j x hx
      have hj : j < 2 := by simpa using (List.getElem?_eq_some_iff.1 hx).1
      have := h1.cells hob (i * 2 + j) x (by rw [flat_get2 css h3 i j _ hd hj]; exact hx)
      have e : (⟨b, 0, none⟩ : Addr).add (i * 2 + j) = ⟨b, i * 2 + j, none⟩ := by unfold Addr.add; split <;> simp_all
      rwa [e] at this
    have e : (⟨b, 0, none⟩ : Addr).add (i * 2) = ⟨b, i * 2, none⟩ := by unfold Addr.add; split <;> simp_all
    refine ⟨⟨b, 0, none⟩, _, _, rfl, hbg, (h1.lt b hob).2, by rw [e]; exact hcell 0 _ rfl, by rw [e]; exact hcell 1 _ rfl, A2, c2, rfl, hne, hs.keep (fun _ _ _ => rfl) (Nat.le_refl _) (fun b hf _ => hf.1)⟩

/-! ### The holder's block -/
def hold (rest : ByteArray) (u : Value) (left size : Nat) (body : Bool) (need : Nat) (v : Value) (A B L : Nat) : Array Value :=
  #[.string rest, u, .int .i64 left, .int .i64 size, .bool body, .int .i64 need, .int .i64 0, v, .int .i64 A, .int .i64 B, .int .i64 L]
/-- An Input as it lies in memory. -/
structure MI where
  rest : ByteArray
  args : List ByteArray
  left : Nat
  size : Nat
  body : Bool
  need : Nat
def MI.inp (x : MI) : Inp := ⟨x.rest.data.toList, txt x.args, x.left, x.size, x.body, x.need⟩
def MI.Ok (A : Nat) (x : MI) : Prop := (x.left = 0 → x.args = [] ∧ x.size = 0 ∧ x.body = false ∧ x.need = 0) ∧ (x.left ≠ 0 → x.args.length + x.left ≤ A)
/-- What is read, behind so many steps. -/
def RD (w0 : World) (g A B L : Nat) (x : MI) (q : List MR) (W : World) : Prop :=
  ∃ u v, W.heap[g]? = some (.cells (hold x.rest u x.left x.size x.body x.need v A B L) 103 (0, 0)) ∧ Held w0 g u v x.args q W ∧ Hid (x.args = [] → u = .slice none 0 0)
def StepEnd (w0 : World) (g A B L : Nat) (x : MI) (q : List MR) (R : Sum Int (Inp × List Rq)) (e : Ending) (w' : World) : Prop := match R with
  | .inl k => RD w0 g A B L x q w' ∧ e = .returned (.tuple #[.bool false, .int .i64 (if k = -1 then 0 else k)])
  | .inr (y, r) => ∃ my mr, MI.inp my = y ∧ mr.map rq = r ∧ MI.Ok A my ∧ (q ++ mr).length + my.size + my.rest.size ≤ q.length + x.size + x.rest.size ∧ RD w0 g A B L my (q ++ mr) w' ∧ e = .returned (.tuple #[.bool true, .int .i64 0])
end Go.Proofs.YtjidopgohdlfdaaGreatDoor
