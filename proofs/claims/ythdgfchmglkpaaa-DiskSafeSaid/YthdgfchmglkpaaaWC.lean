/-
  A disk in a variable, in rows of its own; the place where a file stands, or comes. Mathematics, and what a store leaves.
-/
import Derived.Test.YthdgfchmglkpaaaChecked
import Derived.Test.YthdgfchmglkpaaaMath
import Derived.Test.YthdgfchmglkpaaaA
import Derived.Test.YthdgfchmglkpaaaB
import Derived.Test.YthdgfchmglkpaaaC
import Derived.Test.YthdgfchmglkpaaaD
import Derived.Test.YthdgfchmglkpaaaE
import Derived.Test.YthdgfchmglkpaaaF
import Derived.Test.YthdgfchmglkpaaaJ
import Derived.Test.YthdgfchmglkpaaaK
import Derived.Test.YthdgfchmglkpaaaL
import Derived.Test.YthdgfchmglkpaaaM
import Derived.Test.YthdgfchmglkpaaaU
import Derived.Test.YthdgfchmglkpaaaS
import Derived.Test.YthdgfchmglkpaaaVS
import Derived.Test.YthdgfchmglkpaaaVF
import Derived.Test.YthdgfchmglkpaaaVI
import Derived.Test.YthdgfchmglkpaaaVK
import Derived.Test.YthdgfchmglkpaaaVD
import Derived.Test.YthdgfchmglkpaaaWJ
import Derived.Test.YthdgfchmglkpaaaWA
import Derived.Test.YthdgfchmglkpaaaVY
import Derived.Test.YthdgfchmglkpaaaVZ
import Derived.WalkKit
import Derived.WalkSpells
import Derived.WalkLawsBesides
import Derived.Deep.QuietTactic
import Derived.BigQuiet
import Derived.Lib.Hide
import Derived.Lib.SmallJoins
import Derived.Outline
import Derived.OwnWalk
import Derived.Deep.CutBlock
import Derived.BigRegion
import Derived.StillTailTactics
import Derived.Laws.AppendOwnNone
import Derived.Maps.AppendAt
import Derived.Deep.RegionLaw
import Derived.Deep.RegionHeld3
import Derived.Lib.BufferRead
import Derived.Deep.AppendLies
import Derived.Lib.SliceRun
import Derived.Laws.CopyOwn
namespace Go.Proofs.Ythdgfchmglkpaaa
open Go.RowKit
/-- At place i of L' stands f, the file of the name k; L' is L, or L with an empty file of that name behind it. -/
structure Spot (L L' : List Fl) (k : ByteArray) (i : Nat) (f : Fl) : Prop where
  here : L'[i]? = some f
  data : f.2.1 = ((findF L k).getD noF).2.1
  sync : betw f.2.2 (f.2.1.size : Int) = ((findF L k).getD noF).2.2
  len : L'.length ≤ L.length + 1
  sz : ∀ m, (∀ g ∈ L, g.2.1.size ≤ m) → ∀ g ∈ L', g.2.1.size ≤ m
  set : ∀ x : Fl, x.1 = k → ∀ q, findF (L'.set i x) q = if k = q then some (normF x) else findF L q
theorem find_set {L : List Fl} {k : ByteArray} {i : Nat} {f : Fl} (hf : L[i]? = some f) (hk : f.1 = k) (h0 : ∀ g ∈ L.take i, g.1 ≠ k) (x : Fl) (hx : x.1 = k) (q : ByteArray) : findF (L.set i x) q = if k = q then some (normF x) else findF L q := by
  obtain ⟨hi, e⟩ := List.getElem?_eq_some_iff.1 hf
  have e1 : L.set i x = L.take i ++ x :: L.drop (i + 1) := List.set_eq_take_append_cons_drop.trans (if_pos hi)
  have e2 : L = L.take i ++ f :: L.drop (i + 1) := by
    conv => lhs; rw [← List.take_append_drop i L, List.drop_eq_getElem_cons hi, e]
  unfold findF
  by_cases hq : k = q
  · rw [if_pos hq, e1, List.find?_append]
    subst hq
    have : List.find? (fun f => decide (f.1 = k)) (L.take i) = none := List.find?_eq_none.2 (fun g hg => by simp [h0 g hg])
    rw [this, Option.none_or, List.find?_cons_of_pos (by simp [hx])]
    rfl
  · rw [if_neg hq, e1]
    conv => rhs; rw [e2]
    rw [List.find?_append, List.find?_append, List.find?_cons_of_neg (by simp [hx]; exact hq), List.find?_cons_of_neg (by simp [hk]; exact hq)]
theorem spot_found {L : List Fl} {k : ByteArray} {i : Nat} {f : Fl} (hf : L[i]? = some f) (hk : f.1 = k) (h0 : ∀ g ∈ L.take i, g.1 ≠ k) (hs : findF L k = some (normF f)) : Spot L L k i f :=
  ⟨hf, by rw [hs]; rfl, by rw [hs]; rfl, Nat.le_succ _, fun _ h => h, fun x hx q => find_set hf hk h0 x hx q⟩
theorem spot_new {L : List Fl} {k : ByteArray} (h : findF L k = none) : Spot L (L ++ [(k, ⟨#[]⟩, 0)]) k L.length (k, ⟨#[]⟩, 0) := by
  have h0 : ∀ g ∈ L, g.1 ≠ k := fun g hg e => by
    obtain ⟨f, hf⟩ := (find_iff L k).2 (List.mem_map.2 ⟨g, hg, e⟩)
    rw [h] at hf
    cases hf
  refine ⟨by simp, by rw [h]; rfl, by rw [h]; show betw 0 ((⟨#[]⟩ : ByteArray).size : Int) = 0; decide, by simp, fun m hm g hg => ?_, fun x hx q => ?_⟩
  · rcases List.mem_append.1 hg with hg | hg
    · exact hm g hg
    · rw [List.mem_singleton.1 hg]; exact Nat.zero_le _
  · rw [List.set_append_right _ _ (Nat.le_refl _), Nat.sub_self]
    show findF (L ++ [x]) q = _
    unfold findF
    rw [List.find?_append]
    by_cases hq : k = q
    · rw [if_pos hq]
      subst hq
      have : List.find? (fun f => decide (f.1 = k)) L = none := List.find?_eq_none.2 (fun g hg => by simp [h0 g hg])
      rw [this, Option.none_or, List.find?_cons_of_pos (by simp [hx])]
      rfl
    · rw [if_neg hq]
      have : List.find? (fun f => decide (f.1 = q)) [x] = none := List.find?_eq_none.2 (fun g hg => by rw [List.mem_singleton.1 hg, hx]; simpa using hq)
      rw [this, Option.or_none]
/-- The variable g holds a disk whose rows are one's own, from the block base on. -/
structure VarD (w X : World) (base g : Nat) (fv tv : Value) (L : List Fl) (T : List Ft) : Prop where
  blk : X.heap[g]? = some (.cells #[fv, tv] 25 (0, 0))
  fls : RowF X base fv L
  fts : RowT X base tv T
  bel : Below w.heap.size w X
  lt : g < base
  le : w.heap.size ≤ g
  sz : base ≤ X.heap.size
theorem VarD.on {w X Y : World} {base g : Nat} {fv tv : Value} {L : List Fl} {T : List Ft} (h : VarD w X base g fv tv L T) (hb : Below X.heap.size X Y) : VarD w Y base g fv tv L T :=
  ⟨(hb.block g (some_lt h.blk)).trans h.blk, h.fls.on hb, h.fts.on hb, h.bel.trans (hb.mono h.bel.size), h.lt, h.le, Nat.le_trans h.sz hb.size⟩
theorem row_files {w : World} {base n c : Nat} {A : Option Addr} {L : List Fl} (h : RowF w base (.slice A n c) L) : FilesAt w A L ∧ n = L.length := by
  obtain ⟨A', c', e, hF⟩ := h.files
  cases e
  exact ⟨hF, rfl⟩
/-- A file is written where its row stands. -/
theorem VarD.put {w X : World} {base g gf n cap i : Nat} {tv : Value} {L : List Fl} {T : List Ft} (h : VarD w X base g (.slice (some ⟨gf, 0, none⟩) n cap) tv L T) (hi : i < L.length) (x : Fl) : VarD w (put3 X gf i x) base g (.slice (some ⟨gf, 0, none⟩) n cap) tv (L.set i x) T ∧ Only [gf] X (put3 X gf i x) ∧ base ≤ gf ∧ SRow X gf cap L := by
  rcases h.fls.form with ⟨h1, _⟩ | ⟨g', cap', h1, h2, h3, h4, h5⟩
  · cases h1
  · cases h1
    have ho := only_put3 X gf i x
    have hgg : g ≠ gf := by have := h.lt; omega
    have hfl := (h5.put (by omega) x).row h2 h4
    rw [List.length_set] at hfl
    refine ⟨⟨ho.keep h.blk (by simpa using hgg), hfl, h.fts.only ho (fun k hk => ?_), h.bel.trans (ho.below h.bel.size (fun k hk => by rw [List.mem_singleton.1 hk]; have := h.lt; have := h.le; omega)), h.lt, h.le, Nat.le_trans h.sz ho.size⟩, ho, h2, h5⟩
    rw [List.mem_singleton]
    rintro rfl
    exact row_apart h.fls h.fts k rfl hk
/-- The row of files is made longer, and laid into the variable. -/
theorem VarD.app {w X Z : World} {base g : Nat} {fv tv v : Value} {L N : List Fl} {T : List Ft} (h : VarD w X base g fv tv L T) (hr : RowF Z base v N) (ho : Only fv.ownBlock.toList X Z) :
    VarD w (Z.setCell ⟨g, 0, none⟩ v) base g v tv N T ∧ Z.heap[g]? = some (.cells #[fv, tv] 25 (0, 0)) ∧ ∀ (q : Nat) (o : Obj), q < base → q ≠ g → X.heap[q]? = some o → (Z.setCell ⟨g, 0, none⟩ v).heap[q]? = some o := by
  have hown : ∀ k, k ∈ fv.ownBlock.toList → base ≤ k := fun k hk => (World.ownsRow.lt h.fls k (by simpa using hk)).1
  have hg := ho.keep h.blk (fun hm => by have := hown g hm; have := h.lt; omega)
  have o1 : Only [g] Z (Z.setCell ⟨g, 0, none⟩ v) := (Only.refl [g] Z).set (p := ⟨g, 0, none⟩) (Or.inl (by simp)) v
  have hT : RowT Z base tv T := h.fts.only ho (fun k hk hm => row_apart h.fls h.fts k (by simpa using hm) hk)
  have hlt := h.lt
  have hle := h.le
  have hbz : Below w.heap.size w Z := h.bel.trans (ho.below h.bel.size (fun k hk => by have := hown k hk; omega))
  refine ⟨⟨?_, hr.only o1 (fun k hk => by have := (World.ownsRow.lt hr k hk).1; simp; omega), hT.only o1 (fun k hk => by have := (World.ownsRow.lt hT k hk).1; simp; omega), hbz.trans (o1.below hbz.size (fun k hk => by rw [List.mem_singleton.1 hk]; exact hle)), hlt, hle, Nat.le_trans h.sz (Nat.le_trans ho.size o1.size)⟩, hg, fun q o hq hn hqo => ?_⟩
  · simp [World.setCell, Array.getElem?_modify, hg]
  · exact o1.keep (ho.keep hqo (fun hm => by have := hown q hm; omega)) (by simpa using hn)
theorem one_new (x : ByteArray) {X : World} {b : Nat} {y : ByteArray} {z : Int} (h : X.heap[b]? = some (.cells #[.string x, .string y, .int .i64 z] 39 (0, 0))) : FilesAt X (some ⟨b, 0, none⟩) [(x, y, z)] := fun i f hi => by
  obtain ⟨h0, e⟩ := List.getElem?_eq_some_iff.1 hi
  have h1 : i = 0 := by simp at h0; exact h0
  subst h1
  simp at e
  subst e
  obtain ⟨a0, a1, a2, -, -, -⟩ := three h
  refine ⟨_, rfl, LieB.at h, ?_⟩
  rw [add_zero]
  exact ⟨a0, a1, a2⟩
/-- What the variable holds is laid into the variable r, and handed back. -/
theorem VarD.done {w X : World} {base g r : Nat} {fv tv o0 o1 : Value} {L : List Fl} {T : List Ft} (h : VarD w X base g fv tv L T) (k : X.heap[r]? = some (.cells #[o0, o1] 25 (0, 0))) (h1 : w.heap.size ≤ r) (h2 : r < base) :
    ∃ Y, Y = (X.setCell ⟨r, 0, none⟩ fv).setCell ⟨r, 1, none⟩ tv ∧ Y.cell? ⟨r, 0, none⟩ = some fv ∧ Y.cell? ⟨r, 1, none⟩ = some tv ∧ DkOwn Y w.heap.size (.agg #[fv, tv]) (L, T) ∧ Below w.heap.size w Y := by
  have o1' : Only [r] X ((X.setCell ⟨r, 0, none⟩ fv).setCell ⟨r, 1, none⟩ tv) := ((Only.refl [r] X).set (p := ⟨r, 0, none⟩) (Or.inl (by simp)) fv).set (p := ⟨r, 1, none⟩) (Or.inl (by simp)) tv
  obtain ⟨q0, q1, -, -⟩ := two (store2 k fv tv)
  have hbase : w.heap.size ≤ base := by have := h.lt; have := h.le; omega
  exact ⟨_, rfl, q0, q1, ⟨fv, tv, rfl, (h.fls.only o1' (fun k hk => by have := (World.ownsRow.lt h.fls k hk).1; simp; omega)).base hbase, (h.fts.only o1' (fun k hk => by have := (World.ownsRow.lt h.fts k hk).1; simp; omega)).base hbase⟩, h.bel.trans (o1'.below h.bel.size (fun k hk => by rw [List.mem_singleton.1 hk]; exact h1))⟩
end Go.Proofs.Ythdgfchmglkpaaa
