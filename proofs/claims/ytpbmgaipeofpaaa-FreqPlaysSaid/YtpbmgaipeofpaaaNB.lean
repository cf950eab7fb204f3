/-
  A book in memory: cards behind a map, rows behind a map, the order of touches in the book's own block; what a step on one of them leaves of the others. Premises: a book as it lies, of at most a million keys.
-/
import Derived.Test.YtpbmgaipeofpaaaNA
namespace Go.Proofs.Ytpbmgaipeofpaaa
open Go.RowKit

/-- Cards: of a key its block and its count. -/
abbrev Cd := ByteArray → Option (Nat × Int)
def cardO (k : ByteArray) (x : Int) : Obj := .cells #[.string k, .int .i64 x] 59 (0, 0)
structure Cards (w : World) (cm : Option Nat) (n : Nat) (c : Cd) (O : List Nat) : Prop where
  map : MapO kS w cm n (fun k => (c k).map Prod.fst)
  card : ∀ k b x, c k = some (b, x) → w.heap[b]? = some (cardO k x)
  mem : (∀ m, cm = some m → m ∈ O) ∧ ∀ k b x, c k = some (b, x) → b ∈ O
  lt : ∀ b ∈ O, b < w.heap.size
/-- Rows: of a count its order's block, the order's other blocks, and its keys. -/
abbrev Rw := Int → Option (Nat × List Nat × List ByteArray)
def keysR (r : Rw) (m : Int) : List ByteArray := match r m with
  | some (_, _, K) => K
  | none => []
def cntB (f : Nat → Bool) (N : Nat) : Nat := ((List.range N).filter f).length
def cntR (r : Rw) : Nat := cntB (fun i => (r (i : Int)).isSome) 256
theorem cntB_le (f : Nat → Bool) (N : Nat) : cntB f N ≤ N := by
  have := List.length_filter_le f (List.range N)
  rw [List.length_range] at this
  exact this
theorem cntB_succ (f : Nat → Bool) (N : Nat) : cntB f (N + 1) = cntB f N + (if f N then 1 else 0) := by
  unfold cntB
  rw [List.range_succ, List.filter_append, List.length_append]
  cases h : f N <;> simp [h]
theorem cntB_same {f g : Nat → Bool} : ∀ {N : Nat}, (∀ i, i < N → f i = g i) → cntB f N = cntB g N
  | 0, _ => rfl
  | N + 1, h => by rw [cntB_succ, cntB_succ, cntB_same (fun i hi => h i (by omega)), h N (by omega)]
theorem cntB_one {f g : Nat → Bool} {m : Nat} (h : ∀ i, i ≠ m → f i = g i) (hf : f m = false) (hg : g m = true) : ∀ {N : Nat}, m < N → cntB g N = cntB f N + 1
  | N + 1, hm => by
    rw [cntB_succ, cntB_succ]
    by_cases e : m = N
    · subst e
      rw [cntB_same (f := f) (g := g) (fun i hi => h i (by omega)), hf, hg]
      rfl
    · rw [cntB_one h hf hg (by omega), h N (fun e' => e e'.symm)]
      omega
def upR (r : Rw) (m : Int) (v : Option (Nat × List Nat × List ByteArray)) : Rw := fun x => if x = m then v else r x
theorem upR_at (r : Rw) (m : Int) (v : Option (Nat × List Nat × List ByteArray)) : upR r m v m = v := by unfold upR; rw [if_pos rfl]
theorem upR_other (r : Rw) {m x : Int} (v : Option (Nat × List Nat × List ByteArray)) (h : x ≠ m) : upR r m v x = r x := by unfold upR; rw [if_neg h]
theorem cntR_new {r : Rw} {m : Int} {v : Nat × List Nat × List ByteArray} (hm : 0 ≤ m ∧ m ≤ 255) (h : r m = none) : cntR (upR r m (some v)) = cntR r + 1 := by
  have e : ((m.toNat : Nat) : Int) = m := by omega
  refine cntB_one (m := m.toNat) (fun i hi => ?_) ?_ ?_ (by omega)
  · rw [upR_other _ _ (by omega)]
  · simp only [e, h]
    rfl
  · simp only [e, upR_at]
    rfl
theorem cntR_same {r : Rw} {m : Int} {v : Nat × List Nat × List ByteArray} (h : r m ≠ none) : cntR (upR r m (some v)) = cntR r := by
  refine cntB_same (fun i _ => ?_)
  by_cases hi : (i : Int) = m
  · rw [hi, upR_at]
    cases hr : r m with
    | none => exact absurd hr h
    | some _ => rfl
  · rw [upR_other _ _ hi]
theorem cntR_gone {r : Rw} {m : Int} (hm : 0 ≤ m ∧ m ≤ 255) (h : r m ≠ none) : cntR (upR r m none) = cntR r - 1 := by
  have e : ((m.toNat : Nat) : Int) = m := by omega
  have := cntB_one (f := fun i => (upR r m none (i : Int)).isSome) (g := fun i => (r (i : Int)).isSome) (m := m.toNat) (fun i hi => by rw [upR_other _ _ (by omega)]) (by simp only [e, upR_at]; rfl) (by
    simp only [e]
    cases hr : r m with
    | none => exact absurd hr h
    | some _ => rfl) (N := 256) (by omega)
  show cntB _ 256 = cntB _ 256 - 1
  omega
structure Rows' (w : World) (rm : Option Nat) (r : Rw) (O : List Nat) : Prop where
  map : MapO kI w rm (cntR r) (fun n => (r n).map Prod.fst)
  row : ∀ n b R K, r n = some (b, R, K) → ∃ u, Ord w b 0 #[u] 53 R K
  mem : (∀ m, rm = some m → m ∈ O) ∧ ∀ n b R K, r n = some (b, R, K) → ∀ x ∈ b :: R, x ∈ O
  apart : ∀ n n' b R K b' R' K', r n = some (b, R, K) → r n' = some (b', R', K') → n ≠ n' → ∀ x ∈ b :: R, x ∉ b' :: R'
  fence : ∀ m, rm = some m → ∀ n b R K, r n = some (b, R, K) → m ∉ b :: R
  supp : ∀ n, r n ≠ none → 0 ≤ n ∧ n ≤ 255
  lt : ∀ b ∈ O, b < w.heap.size
def headA (cm rm : Option Nat) (rv : Value) (room : Nat) : Array Value := #[.map cm, .map rm, rv, .int .i64 (room : Int)]
/-- An order's head and its blocks: the order too, or (some v: it is being walked) that the head holds v. -/
def OrdQ (q : Option Value) (w : World) (p j : Nat) (C : Array Value) (T : TypeId) (R : List Nat) (L : List ByteArray) : Prop := match q with
  | none => Ord w p j C T R L
  | some v => C[j]? = some v
def OrdX (q : Option Value) (w : World) (p j : Nat) (C : Array Value) (T : TypeId) (R : List Nat) (L : List ByteArray) : Prop :=
  w.heap[p]? = some (.cells C T (0, 0)) ∧ p ∉ R ∧ (∀ b ∈ R, b < w.heap.size) ∧ OrdQ q w p j C T R L
section
variable {q : Option Value} {w w' : World} {p j : Nat} {C : Array Value} {T : TypeId} {R : List Nat} {L : List ByteArray}
theorem Ord.x (h : Ord w p j C T R L) : OrdX none w p j C T R L := ⟨h.1, h.2.1, fun _ hb => h.lt hb, h⟩
theorem OrdX.lt (h : OrdX q w p j C T R L) {b : Nat} (hb : b ∈ R) : b < w.heap.size := h.2.2.1 b hb
theorem OrdX.keep {O' : List Nat} (h : OrdX q w p j C T R L) (ho : Only O' w w') (hp : p ∉ O') (hd : ∀ b ∈ R, b ∉ O') : OrdX q w' p j C T R L := by
  obtain ⟨h1, h2, h3, h4⟩ := h
  refine ⟨ho.keep h1 hp, h2, fun b hb => Nat.lt_of_lt_of_le (h3 b hb) ho.size, ?_⟩
  cases q with
  | none => exact Ord.keep h4 ho hp hd
  | some v => exact h4
theorem OrdX.keepAt {O' : List Nat} {C' : Array Value} {T' : TypeId} (h : OrdX q w p j C T R L) (ho : Only O' w w') (h' : w'.heap[p]? = some (.cells C' T' (0, 0))) (hC : C'[j]? = C[j]?) (hd : ∀ b ∈ R, b ∉ O') : OrdX q w' p j C' T' R L := by
  obtain ⟨h1, h2, h3, h4⟩ := h
  refine ⟨h', h2, fun b hb => Nat.lt_of_lt_of_le (h3 b hb) ho.size, ?_⟩
  cases q with
  | none => exact Ord.keepAt h4 ho h' hC hd
  | some v => exact hC.trans h4
end
/-- A book's parts, each with its blocks. -/
structure Bok (q : Option Value) (w : World) (p : Nat) (cm rm : Option Nat) (rv : Value) (room n : Nat) (c : Cd) (r : Rw) (R : List Nat) (T : List ByteArray) (OC OR : List Nat) : Prop where
  ring : OrdX q w p 2 (headA cm rm rv room) 55 R T
  cards : Cards w cm n c OC
  rows : Rows' w rm r OR
  pC : p ∉ OC
  pR : p ∉ OR
  cr : ∀ b ∈ OC, b ∉ OR
  ct : ∀ b ∈ OC, b ∉ R
  rt : ∀ b ∈ OR, b ∉ R
  few : n ≤ 1000000
  rfew : room ≤ 1000000
def ownB (p : Nat) (OC OR R : List Nat) : List Nat := p :: (OC ++ OR ++ R)
theorem mem_ownB {p b : Nat} {OC OR R : List Nat} : b ∈ ownB p OC OR R ↔ b = p ∨ b ∈ OC ∨ b ∈ OR ∨ b ∈ R := by
  unfold ownB
  simp only [List.mem_cons, List.mem_append, or_assoc]
/-- A book (q: its order of touches lies as it should, or it is being walked): its cards, its rows' keys, its keys in the order of their touches, how many there are, its blocks. -/
def Bk (q : Option Value) (w : World) (p : Nat) (c : Cd) (F : Int → List ByteArray) (T : List ByteArray) (n : Nat) (O : List Nat) : Prop :=
  ∃ cm rm rv room r R OC OR, Bok q w p cm rm rv room n c r R T OC OR ∧ (∀ m, keysR r m = F m) ∧ O = ownB p OC OR R
variable {q : Option Value} {w w' : World} {p room n : Nat} {cm rm : Option Nat} {rv : Value} {c : Cd} {r : Rw} {R OC OR O : List Nat} {T : List ByteArray} {F : Int → List ByteArray}
theorem Cards.keep {O' : List Nat} (h : Cards w cm n c OC) (ho : Only O' w w') (hd : ∀ b ∈ OC, b ∉ O') : Cards w' cm n c OC where
  map := h.map.keep ho (fun m hm => hd m (h.mem.1 m hm))
  card := fun k b x hc => ho.keep (h.card k b x hc) (hd b (h.mem.2 k b x hc))
  mem := h.mem
  lt := fun b hb => Nat.lt_of_lt_of_le (h.lt b hb) ho.size
theorem Rows'.keep {O' : List Nat} (h : Rows' w rm r OR) (ho : Only O' w w') (hd : ∀ b ∈ OR, b ∉ O') : Rows' w' rm r OR where
  map := h.map.keep ho (fun m hm => hd m (h.mem.1 m hm))
  row := fun n b R K hr => by
    obtain ⟨u, hu⟩ := h.row n b R K hr
    exact ⟨u, hu.keep ho (hd b (h.mem.2 n b R K hr b (by simp))) (fun x hx => hd x (h.mem.2 n b R K hr x (List.mem_cons_of_mem _ hx)))⟩
  mem := h.mem
  apart := h.apart
  fence := h.fence
  supp := h.supp
  lt := fun b hb => Nat.lt_of_lt_of_le (h.lt b hb) ho.size
theorem Bok.keep {O' : List Nat} (h : Bok q w p cm rm rv room n c r R T OC OR) (ho : Only O' w w') (hd : ∀ b ∈ ownB p OC OR R, b ∉ O') : Bok q w' p cm rm rv room n c r R T OC OR :=
  ⟨h.ring.keep ho (hd p (mem_ownB.2 (Or.inl rfl))) (fun b hb => hd b (mem_ownB.2 (Or.inr (Or.inr (Or.inr hb))))), h.cards.keep ho (fun b hb => hd b (mem_ownB.2 (Or.inr (Or.inl hb)))), h.rows.keep ho (fun b hb => hd b (mem_ownB.2 (Or.inr (Or.inr (Or.inl hb))))), h.pC, h.pR, h.cr, h.ct, h.rt, h.few, h.rfew⟩
theorem Bok.lt (h : Bok q w p cm rm rv room n c r R T OC OR) {b : Nat} (hb : b ∈ ownB p OC OR R) : b < w.heap.size := by
  rcases mem_ownB.1 hb with rfl | hb | hb | hb
  · exact some_lt h.ring.1
  · exact h.cards.lt b hb
  · exact h.rows.lt b hb
  · exact h.ring.lt hb
theorem Bk.keep {O' : List Nat} (h : Bk q w p c F T n O) (ho : Only O' w w') (hd : ∀ b ∈ O, b ∉ O') : Bk q w' p c F T n O := by
  obtain ⟨cm, rm, rv, room, r, R, OC, OR, h1, h2, rfl⟩ := h
  exact ⟨cm, rm, rv, room, r, R, OC, OR, h1.keep ho hd, h2, rfl⟩
theorem Bk.same (h : Bk q w p c F T n O) (ho : Only [] w w') : Bk q w' p c F T n O := h.keep ho (by simp)
theorem Bk.lt (h : Bk q w p c F T n O) {b : Nat} (hb : b ∈ O) : b < w.heap.size := by
  obtain ⟨cm, rm, rv, room, r, R, OC, OR, h1, h2, rfl⟩ := h
  exact h1.lt hb
theorem Bk.mem (h : Bk q w p c F T n O) : p ∈ O := by
  obtain ⟨cm, rm, rv, room, r, R, OC, OR, h1, h2, rfl⟩ := h
  exact mem_ownB.2 (Or.inl rfl)
theorem Bk.few (h : Bk q w p c F T n O) : n ≤ 1000000 := by
  obtain ⟨cm, rm, rv, room, r, R, OC, OR, h1, h2, rfl⟩ := h
  exact h1.few
theorem Bk.ext {F' : Int → List ByteArray} (h : Bk q w p c F T n O) (hF : ∀ m, F m = F' m) : Bk q w p c F' T n O := by
  have : F = F' := funext hF
  exact this ▸ h
theorem Bk.card (h : Bk q w p c F T n O) {k : ByteArray} {b : Nat} {x : Int} (hc : c k = some (b, x)) : w.heap[b]? = some (cardO k x) ∧ b ∈ O := by
  obtain ⟨cm, rm, rv, room, r, R, OC, OR, h1, h2, rfl⟩ := h
  exact ⟨h1.cards.card k b x hc, mem_ownB.2 (Or.inr (Or.inl (h1.cards.mem.2 k b x hc)))⟩
theorem Bk.head (h : Bk q w p c F T n O) : ∃ cm rm rv room, w.heap[p]? = some (.cells (headA cm rm rv room) 55 (0, 0)) := by
  obtain ⟨cm, rm, rv, room, r, R, OC, OR, h1, h2, rfl⟩ := h
  exact ⟨cm, rm, rv, room, h1.ring.1⟩
theorem Move.refl (O : List Nat) (w : World) : Move O w w O := ⟨Only.refl _ _, fun _ hb => Or.inl hb⟩
theorem Move.trans {O1 O2 : List Nat} {a b d : World} (h : Move O a b O1) (k : Move O1 b d O2) : Move O a d O2 := by
  have hs := h.1.size
  refine ⟨h.1.trans k.1 h.2, fun x hx => ?_⟩
  rcases k.2 x hx with e | e
  · exact h.2 x e
  · exact Or.inr (by omega)
theorem Move.none (ho : Only [] w w') : Move O w w' O := ⟨ho.mono (by simp), fun _ hb => Or.inl hb⟩
def upF' (F : Int → List ByteArray) (m : Int) (K : List ByteArray) : Int → List ByteArray := fun x => if x = m then K else F x
theorem keysR_at {m : Int} {b : Nat} {R' : List Nat} {K : List ByteArray} (h : r m = some (b, R', K)) : keysR r m = K := by unfold keysR; rw [h]
theorem keysR_none {m : Int} (h : r m = none) : keysR r m = [] := by unfold keysR; rw [h]
theorem keysR_up (r : Rw) (m : Int) (b : Nat) (R' : List Nat) (K : List ByteArray) (x : Int) : keysR (upR r m (some (b, R', K))) x = upF' (keysR r) m K x := by
  unfold upF'
  by_cases h : x = m
  · subst h
    rw [if_pos rfl, keysR_at (upR_at _ _ _)]
  · rw [if_neg h]
    unfold keysR
    rw [upR_other _ _ h]
theorem keysR_gone (r : Rw) (m : Int) (x : Int) : keysR (upR r m none) x = upF' (keysR r) m [] x := by
  unfold upF'
  by_cases h : x = m
  · subst h
    rw [if_pos rfl, keysR_none (upR_at _ _ _)]
  · rw [if_neg h]
    unfold keysR
    rw [upR_other _ _ h]
end Go.Proofs.Ytpbmgaipeofpaaa
