/-
  What a table tells of a key, behind each call. Mathematics; no condition.
-/
import Derived.Test.YtdldgiicblmknaaDoorHV
namespace Go.Proofs.YtdldgiicblmknaaDoor
open Go.RowKit

/-- What a table tells of a key. -/
def View (X : Tb) (key : ByteArray) (o : Option Int) : Prop := match o with
  | some v => ∃ b, (b, key, v) ∈ X.ents
  | none => ∀ e ∈ X.ents, e.2.1 ≠ key
theorem View.perm {X Y : Tb} (h : Y.ents.Perm X.ents) {key : ByteArray} {o : Option Int} (hv : View X key o) : View Y key o := by
  cases o with
  | some v => obtain ⟨b, hb⟩ := hv; exact ⟨b, h.mem_iff.2 hb⟩
  | none => exact fun e he => hv e (h.mem_iff.1 he)
theorem View.one {X : Tb} (hi : Inv X) {key : ByteArray} {o o' : Option Int} (h : View X key o) (h' : View X key o') : o = o' := by
  cases o with
  | some v =>
    obtain ⟨b, hb⟩ := h
    cases o' with
    | some v' =>
      obtain ⟨b', hb'⟩ := h'
      have := ent_one hi.nd _ hb _ hb' rfl
      cases this; rfl
    | none => exact absurd rfl (h' _ hb)
  | none =>
    cases o' with
    | some v' => obtain ⟨b', hb'⟩ := h'; exact absurd rfl (h _ hb')
    | none => rfl
theorem view_ex (X : Tb) (key : ByteArray) : ∃ o, View X key o := by
  by_cases h : ∃ e ∈ X.ents, e.2.1 = key
  · obtain ⟨e, he, rfl⟩ := h
    exact ⟨some e.2.2, e.1, he⟩
  · exact ⟨none, fun e he hk => h ⟨e, he, hk⟩⟩
theorem view_valued {X G : Tb} {k : ByteArray} {v : Int} (hX : Inv X) (h : Valued X G k v) {key : ByteArray} {o : Option Int} (hv : View X key o) : View G key (if k = key then some v else o) ∧ (k = key → o.isSome = true) := by
  obtain ⟨b, old, R, h1, h2⟩ := h.ents
  by_cases hk : k = key
  · subst hk
    rw [if_pos rfl]
    refine ⟨⟨b, h2.mem_iff.2 (List.mem_cons_self ..)⟩, fun _ => ?_⟩
    have := View.one hX hv (o' := some old) ⟨b, h1.mem_iff.2 (List.mem_cons_self ..)⟩
    rw [this]; rfl
  · rw [if_neg hk]
    refine ⟨?_, fun hh => absurd hh hk⟩
    cases o with
    | some u =>
      obtain ⟨c, hc⟩ := hv
      rcases List.mem_cons.1 (h1.mem_iff.1 hc) with h3 | h3
      · cases h3; exact absurd rfl hk
      · exact ⟨c, h2.mem_iff.2 (List.mem_cons_of_mem _ h3)⟩
    | none =>
      intro e he
      rcases List.mem_cons.1 (h2.mem_iff.1 he) with rfl | h3
      · exact hk
      · exact hv e (h1.mem_iff.2 (List.mem_cons_of_mem _ h3))
theorem view_came {X G : Tb} {k : ByteArray} {v : Int} (hX : Inv X) (hno : ∀ e ∈ X.ents, e.2.1 ≠ k) (h : Came X G k v) {key : ByteArray} {o : Option Int} (hv : View X key o) : View G key (if k = key then some v else o) ∧ (k = key → o.isSome = false) := by
  obtain ⟨b, h2⟩ := h.ents
  by_cases hk : k = key
  · subst hk
    rw [if_pos rfl]
    refine ⟨⟨b, h2.mem_iff.2 (List.mem_cons_self ..)⟩, fun _ => ?_⟩
    have := View.one hX hv (o' := none) hno
    rw [this]; rfl
  · rw [if_neg hk]
    refine ⟨?_, fun hh => absurd hh hk⟩
    cases o with
    | some u =>
      obtain ⟨c, hc⟩ := hv
      exact ⟨c, h2.mem_iff.2 (List.mem_cons_of_mem _ hc)⟩
    | none =>
      intro e he
      rcases List.mem_cons.1 (h2.mem_iff.1 he) with rfl | h3
      · exact hk
      · exact hv e h3
theorem view_put {B : Nat} {X G : Tb} {k : ByteArray} {v : Int} {new : Bool} {w w' : World} (h : PutRes B X G k v new w w') {key : ByteArray} {o : Option Int} (hv : View X key o) : View G key (if k = key then some v else o) ∧ (k = key → new = !o.isSome) ∧ G.count ≤ X.count + 1 := by
  obtain ⟨Y, m, hS, _, hh⟩ := h.how
  have hvY := hv.perm hS.perm
  rcases hh with ⟨rfl, hval⟩ | ⟨rfl, hno, hc⟩
  · obtain ⟨h1, h2⟩ := view_valued hS.inv hval hvY
    exact ⟨h1, fun hk => by rw [h2 hk]; rfl, by rw [hval.len.2.2.2, hS.T.2.2]; omega⟩
  · obtain ⟨h1, h2⟩ := view_came hS.inv hno hc hvY
    exact ⟨h1, fun hk => by rw [h2 hk]; rfl, by rw [hc.count, hS.T.2.2]; omega⟩
theorem view_drop {B : Nat} {X G : Tb} {k : ByteArray} {gone : Bool} {w w' : World} (h : DropRes B X G k gone w w') {key : ByteArray} {o : Option Int} (hv : View X key o) : View G key (if k = key then none else o) ∧ (k = key → gone = o.isSome) ∧ G.count ≤ X.count := by
  obtain ⟨Y, m, hS, _, hh⟩ := h.how
  have hvY := hv.perm hS.perm
  rcases hh with ⟨rfl, rfl, hno⟩ | ⟨rfl, hw⟩
  · refine ⟨?_, fun hk => ?_, by rw [hS.T.2.2]; omega⟩
    · by_cases hk : k = key
      · subst hk; rw [if_pos rfl]; exact hno
      · rw [if_neg hk]; exact hvY
    · subst hk
      have := View.one hS.inv hvY (o' := none) hno
      rw [this]; rfl
  · obtain ⟨e, hek, hp⟩ := hw.ents
    have hnd := (List.Perm.nodup_iff (hp.map fun e => e.2.1)).1 hS.inv.nd
    rw [List.map_cons, List.nodup_cons] at hnd
    refine ⟨?_, fun hk => ?_, by have := hw.count; rw [hS.T.2.2] at this; omega⟩
    · by_cases hk : k = key
      · subst hk
        rw [if_pos rfl]
        intro e' he' hk'
        exact hnd.1 (by rw [hek, ← hk']; exact List.mem_map_of_mem (f := fun e : En => e.2.1) he')
      · rw [if_neg hk]
        cases o with
        | some u =>
          obtain ⟨c, hc⟩ := hvY
          rcases List.mem_cons.1 (hp.mem_iff.1 hc) with h3 | h3
          · rw [← h3] at hek; exact absurd hek.symm hk
          · exact ⟨c, h3⟩
        | none => exact fun e' he' => hvY e' (hp.mem_iff.2 (List.mem_cons_of_mem _ he'))
    · subst hk
      have := View.one hS.inv hvY (o' := some e.2.2) ⟨e.1, by rw [← hek]; exact hp.mem_iff.2 (List.mem_cons_self ..)⟩
      rw [this]; rfl

end Go.Proofs.YtdldgiicblmknaaDoor
