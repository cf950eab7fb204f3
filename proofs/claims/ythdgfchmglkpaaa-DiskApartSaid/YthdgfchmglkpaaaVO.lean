/-
  Mathematics of the files that count, in the order of their names. No program, no condition.
-/
import Derived.Test.YthdgfchmglkpaaaChecked
import Derived.Test.YthdgfchmglkpaaaMath
import Derived.Test.YthdgfchmglkpaaaA
import Derived.Test.YthdgfchmglkpaaaL
import Derived.Test.YthdgfchmglkpaaaU
import Derived.Test.YthdgfchmglkpaaaVM
import Derived.Test.YthdgfchmglkpaaaVS
import Derived.Test.YthdgfchmglkpaaaVK
import Derived.Test.YthdgfchmglkpaaaVL
import Derived.WalkKit
import Derived.WalkSpells
import Derived.WalkLawsBesides
import Derived.Deep.QuietTactic
import Derived.BigQuiet
import Derived.Lib.Hide
import Derived.Lib.SmallJoins
import Derived.Outline
import Derived.OwnWalk
import Derived.Deep.CutBlock
import Derived.BigRegion
import Derived.StillTailTactics
import Derived.Laws.AppendOwnNone
import Derived.Maps.AppendAt
import Derived.Deep.RegionLaw
import Derived.Deep.RegionHeld3
import Derived.Lib.BufferRead
import Derived.Deep.AppendLies
import Derived.Lib.SliceRun
import Derived.Laws.CopyOwn
namespace Go.Proofs.Ythdgfchmglkpaaa
open Go.RowKit
/-- The files that count, rising, each with as many safe bytes as it has. -/
def CountOf (L N : List Fl) : Prop := RiseS (N.map (·.1)) ∧ ∀ f, f ∈ N ↔ findF L f.1 = some f
theorem CountOf.same {L M N K : List Fl} (h : CountOf L N) (g : CountOf M K) (e : ∀ k, findF L k = findF M k) : N = K := by
  have hm : ∀ f, f ∈ N ↔ f ∈ K := fun f => by rw [h.2, g.2, e]
  have hn : N.map (·.1) = K.map (·.1) := rise_eq h.1 g.1 (fun k => by
    rw [List.mem_map, List.mem_map]
    exact ⟨fun ⟨f, h1, h2⟩ => ⟨f, (hm f).1 h1, h2⟩, fun ⟨f, h1, h2⟩ => ⟨f, (hm f).2 h1, h2⟩⟩)
  have hl : N.length = K.length := by
    have := congrArg List.length hn
    rwa [List.length_map, List.length_map] at this
  refine List.ext_getElem hl (fun i h1 h2 => ?_)
  have e1 : (N[i]).1 = (K[i]).1 := by
    have := congrArg (fun l => l[i]?) hn
    simp only [List.getElem?_map, List.getElem?_eq_getElem h1, List.getElem?_eq_getElem h2, Option.map_some, Option.some.injEq] at this
    exact this
  have a := (h.2 N[i]).1 (List.getElem_mem h1)
  have b := (g.2 K[i]).1 (List.getElem_mem h2)
  rw [← e, ← e1, a] at b
  exact Option.some.inj b
theorem CountOf.names {L N : List Fl} (h : CountOf L N) : NamesOf L (N.map (·.1)) := ⟨h.1, fun k => by
  rw [List.mem_map, ← find_iff]
  constructor
  · rintro ⟨f, hf, rfl⟩
    exact ⟨f, (h.2 f).1 hf⟩
  · rintro ⟨f, hf⟩
    have e := (find_some hf).1
    exact ⟨f, (h.2 f).2 (by rw [e]; exact hf), e⟩⟩
/-- Each is not behind the next one. -/
def Ord (M : List Fl) : Prop := ∀ i x y, M[i]? = some x → M[i + 1]? = some y → Op.bytesLess x.1.toList y.1.toList = true ∨ x.1 = y.1
theorem kp_rise {M : List Fl} (hM : Ord M) : ∀ i, i < M.length → RiseS ((kp M (i + 1)).map (·.1)) ∧ ∀ f ∈ kp M (i + 1), ∀ x, M[i]? = some x → f.1 = x.1 ∨ Op.bytesLess f.1.toList x.1.toList = true
  | 0, h => by
    obtain ⟨x, hx⟩ : ∃ x, M[0]? = some x := ⟨_, List.getElem?_eq_getElem h⟩
    have e : kp M 1 = [x] := by rw [kp, List.take_add_one, hx]; rfl
    rw [e]
    refine ⟨List.pairwise_singleton _ _, fun f hf y hy => ?_⟩
    rw [hx] at hy
    cases hy
    rw [List.mem_singleton.1 hf]
    exact Or.inl rfl
  | i + 1, h => by
    obtain ⟨x, hx⟩ : ∃ x, M[i]? = some x := ⟨_, List.getElem?_eq_getElem (by omega)⟩
    obtain ⟨y, hy⟩ : ∃ y, M[i + 1]? = some y := ⟨_, List.getElem?_eq_getElem h⟩
    obtain ⟨r1, r2⟩ := kp_rise hM i (by omega)
    by_cases e : y.1 = x.1
    · rw [kp_same hx hy e]
      refine ⟨r1, fun f hf z hz => ?_⟩
      rw [hy] at hz
      cases hz
      rw [e]
      exact r2 f hf x hx
    · rw [kp_other hx hy e]
      have hxy : Op.bytesLess x.1.toList y.1.toList = true := by
        rcases hM i x y hx hy with h1 | h1
        · exact h1
        · exact absurd h1.symm e
      have hall : ∀ f ∈ kp M (i + 1), Op.bytesLess f.1.toList y.1.toList = true := fun f hf => by
        rcases r2 f hf x hx with h1 | h1
        · rw [h1]; exact hxy
        · exact bl_trans _ _ _ h1 hxy
      constructor
      · rw [List.map_append]
        refine List.pairwise_append.2 ⟨r1, List.pairwise_singleton _ _, fun a ha b hb => ?_⟩
        obtain ⟨f, hf, rfl⟩ := List.mem_map.1 ha
        simp at hb
        subst hb
        exact hall f hf
      · intro f hf z hz
        rw [hy] at hz
        cases hz
        rcases List.mem_append.1 hf with hf | hf
        · exact Or.inr (hall f hf)
        · rw [List.mem_singleton.1 hf]; exact Or.inl rfl
/-- What is left stands where no file of its name stands just ahead. -/
def Lead (M : List Fl) (j : Nat) (f : Fl) : Prop := M[j]? = some f ∧ ∀ p, j = p + 1 → ∀ x, M[p]? = some x → x.1 ≠ f.1
theorem kp_mem {M : List Fl} {f : Fl} : ∀ i, i ≤ M.length → (f ∈ kp M i ↔ ∃ j, j < i ∧ Lead M j f)
  | 0, _ => by
    rw [kp]
    exact ⟨fun h => (by cases h), fun ⟨j, h, _⟩ => absurd h (Nat.not_lt_zero _)⟩
  | 1, h => by
    obtain ⟨x, hx⟩ : ∃ x, M[0]? = some x := ⟨_, List.getElem?_eq_getElem (by omega)⟩
    have e : kp M 1 = [x] := by rw [kp, List.take_add_one, hx]; rfl
    rw [e, List.mem_singleton]
    constructor
    · rintro rfl
      exact ⟨0, by omega, hx, fun p hp => absurd hp (by omega)⟩
    · rintro ⟨j, h1, h2, _⟩
      rw [show j = 0 by omega, hx] at h2
      exact (Option.some.inj h2).symm
  | i + 2, h => by
    obtain ⟨x, hx⟩ : ∃ x, M[i]? = some x := ⟨_, List.getElem?_eq_getElem (by omega)⟩
    obtain ⟨y, hy⟩ : ∃ y, M[i + 1]? = some y := ⟨_, List.getElem?_eq_getElem (by omega)⟩
    have ih := kp_mem (M := M) (f := f) (i + 1) (by omega)
    by_cases e : y.1 = x.1
    · rw [kp_same hx hy e, ih]
      constructor
      · rintro ⟨j, h1, h2⟩
        exact ⟨j, by omega, h2⟩
      · rintro ⟨j, h1, h2⟩
        refine ⟨j, ?_, h2⟩
        rcases Nat.lt_or_ge j (i + 1) with h3 | h3
        · exact h3
        · exfalso
          obtain ⟨h4, h5⟩ := h2
          have hj : j = i + 1 := by omega
          subst hj
          rw [hy] at h4
          cases h4
          exact h5 i rfl x hx e.symm
    · rw [kp_other hx hy e, List.mem_append, ih, List.mem_singleton]
      constructor
      · rintro (⟨j, h1, h2⟩ | rfl)
        · exact ⟨j, by omega, h2⟩
        · exact ⟨i + 1, by omega, hy, fun p hp x' hx' => by
            rw [show p = i by omega, hx] at hx'
            cases hx'
            exact fun h => e h.symm⟩
      · rintro ⟨j, h1, h2⟩
        rcases Nat.lt_or_ge j (i + 1) with h3 | h3
        · exact Or.inl ⟨j, h3, h2⟩
        · obtain ⟨h4, _⟩ := h2
          rw [show j = i + 1 by omega, hy] at h4
          exact Or.inr (Option.some.inj h4).symm
theorem zip_mem {L : List Fl} {x : TF} : x ∈ L.zipIdx ↔ L[x.2]? = some x.1 := by
  constructor
  · intro h
    obtain ⟨i, hi⟩ := mem_get h
    rw [List.getElem?_zipIdx] at hi
    cases hq : L[i]? with
    | none => rw [hq] at hi; simp at hi
    | some f => rw [hq] at hi; simp at hi; rw [← hi]; exact hq
  · intro h
    refine List.mem_of_getElem? (i := x.2) ?_
    rw [List.getElem?_zipIdx, h]
    simp
theorem find_first {L : List Fl} {k : ByteArray} {f : Fl} : L.find? (fun f => decide (f.1 = k)) = some f ↔ ∃ t, L[t]? = some f ∧ f.1 = k ∧ ∀ (s : Nat) (y : Fl), s < t → L[s]? = some y → y.1 ≠ k := by
  constructor
  · intro h
    obtain ⟨l1, l2, e, hn⟩ := (List.find?_eq_some_iff_append.1 h).2
    have hf := (List.find?_eq_some_iff_append.1 h).1
    refine ⟨l1.length, by rw [e]; exact get_at _ _ _, by simpa using hf, fun s y hs hy => ?_⟩
    rw [e, List.getElem?_append_left hs] at hy
    have := hn y (List.mem_of_getElem? hy)
    simpa using this
  · rintro ⟨t, h1, h2, h3⟩
    obtain ⟨ht, e⟩ := List.getElem?_eq_some_iff.1 h1
    refine List.find?_eq_some_iff_append.2 ⟨by simpa using h2, L.take t, L.drop (t + 1), ?_, fun y hy => ?_⟩
    · conv => lhs; rw [← List.take_append_drop t L, List.drop_eq_getElem_cons ht, e]
    · obtain ⟨s, hs⟩ := List.mem_iff_getElem?.1 hy
      rw [List.getElem?_take] at hs
      split at hs
      · have := h3 s y (by assumption) hs
        simpa using this
      · cases hs
theorem ltT_le {x y : TF} (h : ltT x y) : Op.bytesLess x.1.1.toList y.1.1.toList = true ∨ x.1.1 = y.1.1 := by
  rcases h with h | ⟨h, _⟩
  · exact Or.inl h
  · exact Or.inr h
theorem srt_ord {G : List TF} (h : Srt G) : Ord (G.map (·.1)) := fun i x y hx hy => by
  rw [List.getElem?_map, Option.map_eq_some_iff] at hx hy
  obtain ⟨u, hu, rfl⟩ := hx
  obtain ⟨v, hv, rfl⟩ := hy
  exact ltT_le (srt_get h (Nat.lt_succ_self i) hu hv)
/-- The first ones of each name, in order. -/
theorem lead_first {L : List Fl} {G : List TF} (hp : G.Perm L.zipIdx) (hs : Srt G) (f : Fl) : (∃ j, j < G.length ∧ Lead (G.map (·.1)) j f) ↔ L.find? (fun g => decide (g.1 = f.1)) = some f := by
  rw [find_first]
  have hL : ∀ {x}, x ∈ G ↔ L[x.2]? = some x.1 := fun {x} => hp.mem_iff.trans zip_mem
  have hnames : ∀ {i j : Nat} {x y : TF}, G[i]? = some x → G[j]? = some y → i < j → x.1.1 = y.1.1 → ∀ {k z}, i ≤ k → k ≤ j → G[k]? = some z → z.1.1 = y.1.1 := fun {i j x y} hx hy hij e {k z} h1 h2 hz => by
    rcases Nat.lt_or_ge i k with h3 | h3
    · rcases Nat.lt_or_ge k j with h4 | h4
      · rcases ltT_le (srt_get hs h3 hx hz) with a | a
        · rcases ltT_le (srt_get hs h4 hz hy) with b | b
          · have := bl_trans _ _ _ a b
            rw [e, bl_irr] at this
            cases this
          · exact b
        · rw [← a, e]
      · rw [show k = j by omega, hy] at hz; cases hz; rfl
    · rw [show k = i by omega, hx] at hz; cases hz; exact e
  constructor
  · rintro ⟨j, hj, h1, h2⟩
    rw [List.getElem?_map, Option.map_eq_some_iff] at h1
    obtain ⟨x, hx, rfl⟩ := h1
    refine ⟨x.2, hL.1 (List.mem_of_getElem? hx), rfl, fun s y hs' hy e => ?_⟩
    obtain ⟨i, hi⟩ := mem_get ((hL (x := (y, s))).2 hy)
    have hlt : ltT (y, s) x := Or.inr ⟨e, hs'⟩
    have hij : i < j := by
      rcases Nat.lt_trichotomy i j with h | h | h
      · exact h
      · subst h
        rw [hx] at hi
        cases hi
        exact absurd hs' (Nat.lt_irrefl _)
      · exact absurd (ltT_trans hlt (srt_get hs h hx hi)) (ltT_irr _)
    obtain ⟨p, rfl⟩ : ∃ p, j = p + 1 := ⟨j - 1, by omega⟩
    obtain ⟨z, hz⟩ : ∃ z, G[p]? = some z := ⟨_, List.getElem?_eq_getElem (by omega)⟩
    exact h2 p rfl z.1 (by rw [List.getElem?_map, hz]; rfl) (hnames hi hx hij e (by omega) (by omega) hz)
  · rintro ⟨t, h1, _, h3⟩
    obtain ⟨j, hj⟩ := mem_get ((hL (x := (f, t))).2 h1)
    refine ⟨j, (List.getElem?_eq_some_iff.1 hj).1, by rw [List.getElem?_map, hj]; rfl, fun p hp x hx => ?_⟩
    subst hp
    rw [List.getElem?_map, Option.map_eq_some_iff] at hx
    obtain ⟨z, hz, rfl⟩ := hx
    intro e
    rcases srt_get hs (Nat.lt_succ_self p) hz hj with h4 | ⟨_, h4⟩
    · have e' : z.1.1 = f.1 := e
      rw [e', bl_irr] at h4
      cases h4
    · exact h3 z.2 z.1 h4 (hL.1 (List.mem_of_getElem? hz)) e
theorem count_of {L : List Fl} {G : List TF} (hp : G.Perm L.zipIdx) (hs : Srt G) : CountOf L ((kp (G.map (·.1)) G.length).map normF) := by
  have hm : ∀ f, f ∈ kp (G.map (·.1)) G.length ↔ L.find? (fun g => decide (g.1 = f.1)) = some f := fun f => by
    rw [kp_mem _ (by simp)]
    exact lead_first hp hs f
  constructor
  · have e : ((kp (G.map (·.1)) G.length).map normF).map (·.1) = (kp (G.map (·.1)) G.length).map (·.1) := by
      rw [List.map_map]
      rfl
    rw [e]
    cases hn : G.length with
    | zero => rw [kp]; exact List.Pairwise.nil
    | succ n => exact (kp_rise (srt_ord hs) n (by simp; omega)).1
  · intro f
    rw [List.mem_map]
    constructor
    · rintro ⟨g, hg, rfl⟩
      show findF L g.1 = _
      unfold findF
      rw [(hm g).1 hg]
      rfl
    · intro h
      unfold findF at h
      rw [Option.map_eq_some_iff] at h
      obtain ⟨g, hg, rfl⟩ := h
      exact ⟨g, (hm g).2 hg, rfl⟩
end Go.Proofs.Ythdgfchmglkpaaa
