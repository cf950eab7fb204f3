/-
  Halve: what it has between two rounds of its walk. Premises: a book as it lies.
-/
import Derived.Test.YtpbmgaipeofpaaaNK
import Derived.Test.YtpbmgaipeofpaaaS
namespace Go.Proofs.Ytpbmgaipeofpaaa
open Go.RowKit

/-- The cards are those of a row of keys with counts. -/
def CL (c : Cd) (L : List Sc) : Prop := ∀ k x, (∃ b, c k = some (b, x)) ↔ (k, x) ∈ L
def lessO (m : Nat) : Obj := .cells #[.int .i64 (m : Int)] 3 (0, 0)
def boxO (p : Nat) : Obj := .cells #[ptr p] 25 (0, 0)
/-- What lies apart when the loop begins. -/
structure Hs (w0 : World) (bx bl : Nat) (R O0 : List Nat) : Prop where
  own : ∀ b ∈ O0, b < w0.heap.size ∧ b ∉ R ∧ b ≠ bl ∧ b ≠ bx
  ring : ∀ b ∈ R, b < w0.heap.size ∧ b ≠ bl ∧ b ≠ bx
  two : bl < w0.heap.size ∧ bx < w0.heap.size ∧ bl ≠ bx
/-- Between two rounds: the first i keys' counts are halved, and stand in their rows. -/
structure Hv (w0 : World) (p bx bl n : Nat) (rv : Value) (T : List ByteArray) (R O0 : List Nat) (L : List Sc) (i : Nat) (W : World) (c : Cd) (O : List Nat) : Prop where
  bk : Bk (some rv) W p c (rowF (halveF (L.take i))) T n O
  cl : CL c (halveF (L.take i) ++ L.drop i)
  less : W.heap[bl]? = some (lessO (lessF (L.take i)))
  box : W.heap[bx]? = some (boxO p)
  own : ∀ b ∈ O, b ∈ O0 ∨ w0.heap.size + 3 ≤ b
  rest : ∀ k, k < w0.heap.size → k ∉ O0 → k ∉ R → k ≠ bl → W.heap[k]? = w0.heap[k]?
  grow : Below 0 w0 W
def HvJ (w0 : World) (p bx bl n : Nat) (rv : Value) (T : List ByteArray) (R O0 : List Nat) (L : List Sc) (pre : List ByteArray) (W : World) : Prop :=
  ∃ i c O, i ≤ L.length ∧ pre = (L.take i).map Prod.fst ∧ Hv w0 p bx bl n rv T R O0 L i W c O
variable {w0 W W' : World} {p bx bl n i : Nat} {rv : Value} {T : List ByteArray} {R O0 O : List Nat} {L : List Sc} {c : Cd}
theorem Hv.apart (h : Hv w0 p bx bl n rv T R O0 L i W c O) (s : Hs w0 bx bl R O0) {b : Nat} (hb : b ∈ O) : b ∉ R ∧ ¬ Own3 w0.heap.size b ∧ b ≠ bl ∧ b ≠ bx := by
  have h2 := s.two
  rcases h.own b hb with e | e
  · obtain ⟨a1, a2, a3, a4⟩ := s.own b e
    exact ⟨a2, fun ho => by have := ho.1; omega, a3, a4⟩
  · exact ⟨fun hm => by have := (s.ring b hm).1; omega, fun ho => by have := ho.2; omega, by omega, by omega⟩
theorem Hv.ex (h : Hv w0 p bx bl n rv T R O0 L i W c O) (s : Hs w0 bx bl R O0) (hb : Below 0 W W') (hk : ∀ k, k < W.heap.size → ¬ k ∈ R → ¬ Own3 w0.heap.size k → W'.heap[k]? = W.heap[k]?) : Hv w0 p bx bl n rv T R O0 L i W' c O := by
  have h2 := s.two
  have ho : Only (R ++ [w0.heap.size, w0.heap.size + 1, w0.heap.size + 2]) W W' := ⟨hb, fun k hkl hn => hk k hkl (fun hm => hn (List.mem_append_left _ hm)) (fun ho => hn (by
    have := ho.1
    have := ho.2
    simp only [List.mem_append, List.mem_cons, List.not_mem_nil, or_false]
    exact Or.inr (by omega)))⟩
  have hno : ∀ b, b ∉ R → ¬ Own3 w0.heap.size b → b ∉ R ++ [w0.heap.size, w0.heap.size + 1, w0.heap.size + 2] := fun b hR h3 hm => by
    rcases List.mem_append.1 hm with e | e
    · exact hR e
    · simp only [List.mem_cons, List.not_mem_nil, or_false] at e
      exact h3 ⟨by omega, by omega⟩
  refine ⟨h.bk.keep ho (fun b hb => hno b (h.apart s hb).1 (h.apart s hb).2.1), h.cl, ho.keep h.less (hno _ (fun hm => (s.ring _ hm).2.1 rfl) (fun h3 => by have := h3.1; omega)), ho.keep h.box (hno _ (fun hm => (s.ring _ hm).2.2 rfl) (fun h3 => by have := h3.1; omega)), h.own, fun k hkl k1 k2 k3 => ?_, h.grow.trans hb⟩
  rw [← h.rest k hkl k1 k2 k3]
  exact ho.2 k (Nat.lt_of_lt_of_le hkl h.grow.size) (hno k k2 (fun h3 => by have := h3.1; omega))
theorem take_at {L : List Sc} {i : Nat} {y : Sc} (h : L[i]? = some y) : L.take (i + 1) = L.take i ++ [y] := by rw [List.take_add_one, h]; rfl
theorem drop_at {L : List Sc} {i : Nat} {y : Sc} (h : L[i]? = some y) : L.drop i = y :: L.drop (i + 1) := by
  obtain ⟨h1, h2⟩ := List.getElem?_eq_some_iff.1 h
  rw [List.drop_eq_getElem_cons h1, h2]
theorem uniq_at {L : List Sc} (hu : Uniq L) {i : Nat} {y : Sc} (h : L[i]? = some y) : (∀ z ∈ L.take i, z.1 ≠ y.1) ∧ ∀ z ∈ L.drop (i + 1), z.1 ≠ y.1 := by
  have e : L = L.take i ++ y :: L.drop (i + 1) := by rw [← drop_at h, List.take_append_drop]
  have hu' : Uniq (L.take i ++ y :: L.drop (i + 1)) := e ▸ hu
  obtain ⟨h1, h2, h3⟩ := List.pairwise_append.1 hu'
  exact ⟨fun z hz => h3 z hz y (by simp), fun z hz => fun e => (List.pairwise_cons.1 h2).1 z hz e.symm⟩
theorem mem_halve {L : List Sc} {z : Sc} (h : z ∈ halveF L) : ∃ y ∈ L, y.1 = z.1 := by
  obtain ⟨y, hy, rfl⟩ := List.mem_map.1 h
  exact ⟨y, hy, (halfO_key y).symm⟩
theorem halve_row {L : List Sc} (hu : Uniq L) {i : Nat} {key : ByteArray} {x y : Int} (h : L[i]? = some (key, x)) (hy : halfO (key, x) = (key, y)) (m : Int) :
    upF' (rowF (halveF (L.take i))) y (tipK (rowF (halveF (L.take i)) y) key) m = rowF (halveF (L.take (i + 1))) m := by
  rw [take_at h, halveF_snoc, hy, rowF_snoc]
  have hn : key ∉ rowF (halveF (L.take i)) y := fun hm => by
    obtain ⟨z, hz, e⟩ := mem_halve (mem_rowF.1 hm)
    exact (uniq_at hu h).1 z hz e
  rw [tipK_new hn]
  unfold upF'
  by_cases e : m = y
  · subst e; rw [if_pos rfl, if_pos rfl]
  · rw [if_neg e, if_neg (fun e' => e e'.symm), List.append_nil]
theorem halve_cl {c c2 : Cd} {L : List Sc} (hu : Uniq L) {i : Nat} {key : ByteArray} {x y : Int} (h : L[i]? = some (key, x)) (hy : halfO (key, x) = (key, y)) (hc : CL c (halveF (L.take i) ++ L.drop i)) (h2 : ∀ k, k ≠ key → c2 k = c k) (hk : ∃ b, c2 key = some (b, y)) :
    CL c2 (halveF (L.take (i + 1)) ++ L.drop (i + 1)) := fun k z => by
  obtain ⟨u1, u2⟩ := uniq_at hu h
  rw [take_at h, halveF_snoc, hy]
  by_cases e : k = key
  · subst e
    obtain ⟨b, hb⟩ := hk
    rw [hb]
    constructor
    · rintro ⟨b', e⟩
      cases e
      simp
    · intro hm
      simp only [List.mem_append, List.mem_singleton] at hm
      rcases hm with (hm | hm) | hm
      · obtain ⟨q, hq, e⟩ := mem_halve hm
        exact absurd e (u1 q hq)
      · cases hm
        exact ⟨b, rfl⟩
      · exact absurd rfl (u2 (k, z) hm)
  · rw [h2 k e, hc k z, drop_at h]
    simp only [List.mem_append, List.mem_cons]
    have hne : (k, z) ≠ (key, x) := fun e' => e (congrArg Prod.fst e')
    have hne2 : (k, z) ≠ (key, y) := fun e' => e (congrArg Prod.fst e')
    simp [hne, hne2]
/-- A round's end. -/
theorem Hv.next {key : ByteArray} {x y : Int} {W2 W5 : World} {c2 : Cd} {O5 : List Nat} (h : Hv w0 p bx bl n rv T R O0 L i W c O) (s : Hs w0 bx bl R O0) (h3 : w0.heap.size + 3 ≤ W.heap.size) (hu : Uniq L) (hi : L[i]? = some (key, x)) (hy : halfO (key, x) = (key, y))
    (hW2 : Only (bl :: O) W W2) (hl2 : W2.heap[bl]? = some (lessO (lessF (L.take (i + 1))))) (mm : Move O W2 W5 O5)
    (h5 : Bk (some rv) W5 p c2 (upF' (rowF (halveF (L.take i))) y (tipK (rowF (halveF (L.take i)) y) key)) T n O5) (hc2 : ∀ k, k ≠ key → c2 k = c k) (hck : ∃ b, c2 key = some (b, y)) :
    Hv w0 p bx bl n rv T R O0 L (i + 1) W5 c2 O5 ∧ Below 0 W W5 ∧ ∀ k, k < W.heap.size → (k ∈ R ∨ Own3 w0.heap.size k) → W5.heap[k]? = W.heap[k]? := by
  have t2 := s.two
  have hs2 := hW2.size
  have hblO : bl ∉ O := fun hm => (h.apart s hm).2.2.1 rfl
  have hbxO : bx ∉ bl :: O := fun hm => by
    rcases List.mem_cons.1 hm with e | hm
    · exact t2.2.2 e.symm
    · exact (h.apart s hm).2.2.2 rfl
  have ho : Only (bl :: O) W W5 := hW2.trans mm.1 (fun z hz => Or.inl (List.mem_cons_of_mem _ hz))
  have hown : ∀ b ∈ O5, b ∈ O0 ∨ w0.heap.size + 3 ≤ b := fun b hb => by
    rcases mm.2 b hb with e | e
    · exact h.own b e
    · exact Or.inr (by omega)
  refine ⟨⟨h5.ext (halve_row hu hi hy), halve_cl hu hi hy h.cl hc2 hck, mm.1.keep hl2 hblO, ho.keep h.box hbxO, hown, fun k hk k1 k2 k3 => ?_, h.grow.trans ho.1⟩, ho.1, fun k hk hkS => ho.2 k hk (fun hm => ?_)⟩
  · rw [ho.2 k (Nat.lt_of_lt_of_le hk h.grow.size) (fun hm => ?_), h.rest k hk k1 k2 k3]
    rcases List.mem_cons.1 hm with e | hm
    · exact k3 e
    · rcases h.own k hm with e | e
      · exact k1 e
      · omega
  · rcases List.mem_cons.1 hm with e | hm
    · rcases hkS with e2 | e2
      · exact (s.ring k e2).2.1 e
      · have := e2.1
        omega
    · rcases hkS with e2 | e2
      · exact (h.apart s hm).1 e2
      · exact (h.apart s hm).2.1 e2
/-- Behind the walk. -/
theorem Hv.done {C0 : Array Value} {T0 : TypeId} (h : Hv w0 p bx bl n rv T R O0 L L.length W c O) (s : Hs w0 bx bl R O0) (hr : Ord w0 p 2 C0 T0 R T) (hC : C0[2]? = some rv) (hk : KpN (fun k => k ∈ R) w0 W) (o : Obj) :
    ∃ O', Bk none (W.putObj w0.heap.size o) p c (rowF (halveF L)) T n O' ∧ CL c (halveF L) ∧ Only (bl :: O0) w0 (W.putObj w0.heap.size o) ∧ ∀ b ∈ O', b ∈ O0 ∨ b ∈ R ∨ w0.heap.size ≤ b := by
  have hcl := h.cl
  have hbk := h.bk
  rw [List.take_length, List.drop_length, List.append_nil] at hcl
  rw [List.take_length] at hbk
  have o1 : Only (bl :: O0) w0 W := ⟨hk.1, fun k hkl hn => by
    by_cases e : k ∈ R
    · exact hk.2 k e
    · exact h.rest k hkl (fun hm => hn (List.mem_cons_of_mem _ hm)) e (fun hm => hn (by rw [hm]; simp))⟩
  have o2 : Only [w0.heap.size] W (W.putObj w0.heap.size o) := (Only.refl _ W).putObj (Or.inl (by simp)) o
  have o3 : Only (bl :: O0) w0 (W.putObj w0.heap.size o) := o1.putObj (Or.inr (Nat.le_refl _)) o
  have hDO : ∀ b ∈ O, b ∉ [w0.heap.size] := fun b hb hm => (h.apart s hb).2.1 ⟨by rw [List.mem_singleton.1 hm]; exact Nat.le_refl _, by rw [List.mem_singleton.1 hm]; omega⟩
  have hb2 := hbk.keep o2 hDO
  obtain ⟨cm, rm, rv', room, r, R', OC, OR, h1, h2, rfl⟩ := hb2
  have hrv : rv' = rv := by
    have : (headA cm rm rv' room)[2]? = some rv := h1.ring.2.2.2
    exact Option.some.inj this
  subst hrv
  have hap := fun b (hb : b ∈ ownB p OC OR R') => (h.apart s hb)
  have hord : Ord (W.putObj w0.heap.size o) p 2 (headA cm rm rv' room) 55 R T := hr.keepAt o3 h1.ring.1 (by rw [hC]; rfl) (fun b hb hm => by
    rcases List.mem_cons.1 hm with e | hm
    · exact (s.ring b hb).2.1 e
    · exact (s.own b hm).2.1 hb)
  refine ⟨ownB p OC OR R, ⟨cm, rm, rv', room, r, R, OC, OR, ⟨hord.x, h1.cards, h1.rows, h1.pC, h1.pR, h1.cr, fun b hb => (hap b (mem_ownB.2 (Or.inr (Or.inl hb)))).1, fun b hb => (hap b (mem_ownB.2 (Or.inr (Or.inr (Or.inl hb))))).1, h1.few, h1.rfew⟩, h2, rfl⟩, hcl, o3, fun b hb => ?_⟩
  have hin : b ∈ R ∨ b ∈ ownB p OC OR R' := by
    rcases mem_ownB.1 hb with e | e | e | e
    · exact Or.inr (mem_ownB.2 (Or.inl e))
    · exact Or.inr (mem_ownB.2 (Or.inr (Or.inl e)))
    · exact Or.inr (mem_ownB.2 (Or.inr (Or.inr (Or.inl e))))
    · exact Or.inl e
  rcases hin with e | e
  · exact Or.inr (Or.inl e)
  · rcases h.own b e with e | e
    · exact Or.inl e
    · exact Or.inr (Or.inr (by omega))
end Go.Proofs.Ytpbmgaipeofpaaa
