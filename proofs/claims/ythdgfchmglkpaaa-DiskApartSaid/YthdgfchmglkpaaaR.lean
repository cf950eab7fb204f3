/-
  Mathematics: what each op finds of each name behind it; ops on disks that are the same leave disks that are the same; how great a disk may become. No condition.
-/
import Derived.Test.YthdgfchmglkpaaaChecked
import Derived.Test.YthdgfchmglkpaaaMath
import Derived.Test.YthdgfchmglkpaaaA
import Derived.Test.YthdgfchmglkpaaaF
import Derived.Test.YthdgfchmglkpaaaG
import Derived.Test.YthdgfchmglkpaaaH
import Derived.Test.YthdgfchmglkpaaaI
import Derived.Test.YthdgfchmglkpaaaJ
import Derived.Test.YthdgfchmglkpaaaK
import Derived.Test.YthdgfchmglkpaaaL
import Derived.Test.YthdgfchmglkpaaaM
import Derived.Test.YthdgfchmglkpaaaO
import Derived.WalkKit
import Derived.WalkSpells
import Derived.WalkLawsBesides
import Derived.Deep.QuietTactic
import Derived.BigQuiet
import Derived.Lib.Hide
import Derived.Lib.SmallJoins
import Derived.Outline
import Derived.OwnWalk
import Derived.Deep.CutBlock
import Derived.BigRegion
import Derived.StillTailTactics
import Derived.Laws.AppendOwnNone
import Derived.Maps.AppendAt
import Derived.Deep.RegionLaw
import Derived.Deep.RegionHeld3
import Derived.Lib.BufferRead
import Derived.Deep.AppendLies
namespace Go.Proofs.Ythdgfchmglkpaaa
open Go.RowKit
theorem nodup_on {α β : Type} {f : α → β} : ∀ {l : List α}, l.Nodup → (∀ a ∈ l, ∀ b ∈ l, f a = f b → a = b) → (l.map f).Nodup
  | [], _, _ => List.nodup_nil
  | a :: l, hn, h => by
    rw [List.nodup_cons] at hn
    rw [List.map_cons, List.nodup_cons]
    refine ⟨fun hm => ?_, nodup_on hn.2 (fun x hx y hy => h x (List.mem_cons_of_mem _ hx) y (List.mem_cons_of_mem _ hy))⟩
    obtain ⟨b, hb, e⟩ := List.mem_map.1 hm
    have := h a List.mem_cons_self b (List.mem_cons_of_mem _ hb) e.symm
    subst this
    exact hn.1 hb
theorem nodup_of {α β : Type} {f : α → β} : ∀ {l : List α}, (l.map f).Nodup → l.Nodup
  | [], _ => List.nodup_nil
  | a :: l, h => by
    rw [List.map_cons, List.nodup_cons] at h
    rw [List.nodup_cons]
    exact ⟨fun hm => h.1 (List.mem_map.2 ⟨a, hm, rfl⟩), nodup_of h.2⟩
theorem find_of_mem : ∀ {M : List Fl}, (M.map (·.1)).Nodup → ∀ {f : Fl}, f ∈ M → findF M f.1 = some (normF f)
  | [], _, _, h => by cases h
  | g :: M, hn, f, h => by
    rw [List.map_cons, List.nodup_cons] at hn
    unfold findF
    rcases List.mem_cons.1 h with rfl | h
    · rw [List.find?_cons_of_pos (by simp)]
      rfl
    · rw [List.find?_cons_of_neg (by
        simp only [decide_eq_true_eq]
        exact fun e => hn.1 (by rw [e]; exact List.mem_map.2 ⟨f, h, rfl⟩))]
      exact find_of_mem hn.2 h
theorem find_norm {L : List Fl} {k : ByteArray} {f : Fl} (h : findF L k = some f) : normF f = f := by
  obtain ⟨_, g, _, rfl⟩ := find_some h
  exact norm_norm g
theorem files_of_find {L : List Fl} {k : ByteArray} {f : Fl} (h : findF L k = some f) : f ∈ filesF L ∧ f.1 = k := by
  have hk := (find_some h).1
  have h2 : k ∈ (filesF L).map (·.1) := (files_names L k).2 ((find_iff L k).1 ⟨f, h⟩)
  obtain ⟨g, hg, e⟩ := List.mem_map.1 h2
  have h3 := files_mem hg
  rw [e, h] at h3
  obtain rfl := Option.some.inj h3
  exact ⟨hg, hk⟩
/-- What is found where each file that counts is turned into one of the same name. -/
theorem find_mapN {L : List Fl} (c : Fl → Fl) (hc : ∀ f ∈ filesF L, (c f).1 = f.1) (k : ByteArray) : findF ((filesF L).map c) k = (findF L k).map (fun f => normF (c f)) := by
  have hnm : ((filesF L).map c).map (·.1) = (filesF L).map (·.1) := by
    rw [List.map_map]
    exact List.map_congr_left (fun f hf => hc f hf)
  cases hf : findF L k with
  | none =>
    refine find_none (fun h => ?_)
    rw [hnm, files_names, ← find_iff] at h
    obtain ⟨f, h⟩ := h
    rw [hf] at h
    cases h
  | some f =>
    obtain ⟨hm, rfl⟩ := files_of_find hf
    have := find_of_mem (M := (filesF L).map c) (by rw [hnm]; exact files_uniq L) (List.mem_map.2 ⟨f, hm, rfl⟩)
    rw [hc f hm] at this
    exact this
theorem find_with (L : List Fl) (f : Fl) (k : ByteArray) : findF (withF L f) k = if f.1 = k then some (normF f) else findF L k := by
  unfold withF
  split
  · rename_i h
    rw [find_mapN (fun g => if g.1 = f.1 then f else g) (fun g _ => by
      show (if g.1 = f.1 then f else g).1 = g.1
      split
      · rename_i e; exact e.symm
      · rfl)]
    by_cases e : f.1 = k
    · rw [if_pos e]
      obtain ⟨g, hg⟩ := find_mem ((files_names L k).1 ((has_iff _ _).1 (by rw [← e]; exact h)))
      rw [hg]
      show some (normF (if g.1 = f.1 then f else g)) = _
      rw [if_pos ((find_some hg).1.trans e.symm)]
    · rw [if_neg e]
      cases hg : findF L k with
      | none => rfl
      | some g =>
        show some (normF (if g.1 = f.1 then f else g)) = _
        rw [if_neg (fun e2 => e (e2.symm.trans (find_some hg).1)), find_norm hg]
  · rename_i h
    rw [find_snoc, find_files]
    by_cases e : f.1 = k
    · rw [if_pos e, if_pos e]
      rw [find_none (fun h2 => has_no h (by rw [files_names, e]; exact h2))]
      rfl
    · rw [if_neg e, if_neg e, Option.or_none]
theorem find_remove (L : List Fl) (t k : ByteArray) : findF (removeF L t) k = if t = k then none else findF L k := by
  have hn : ((removeF L t).map (·.1)).Nodup := by
    unfold removeF
    exact (files_uniq L).sublist (List.Sublist.map _ List.filter_sublist)
  have hmem : ∀ g, g ∈ removeF L t ↔ g ∈ filesF L ∧ g.1 ≠ t := fun g => by unfold removeF; rw [List.mem_filter]; simp
  by_cases e : t = k
  · rw [if_pos e]
    refine find_none (fun h => ?_)
    obtain ⟨g, hg, e2⟩ := List.mem_map.1 h
    exact ((hmem g).1 hg).2 (e2.trans e.symm)
  · rw [if_neg e]
    cases hf : findF L k with
    | none =>
      refine find_none (fun h => ?_)
      obtain ⟨g, hg, e2⟩ := List.mem_map.1 h
      have := files_mem ((hmem g).1 hg).1
      rw [e2, hf] at this
      cases this
    | some f =>
      obtain ⟨hm, rfl⟩ := files_of_find hf
      have := find_of_mem hn ((hmem f).2 ⟨hm, fun e2 => e e2.symm⟩)
      rw [find_norm hf] at this
      exact this
theorem find_rename {L : List Fl} {k : ByteArray} {x : Fl} (hx : findF L k = some x) (t q : ByteArray) :
    findF ((filesF (if k = t then L else removeF L t)).map (fun g => if g.1 = k then (t, x.2.1, x.2.2) else g)) q = if t = q then some (t, x.2.1, x.2.2) else if k = q then none else findF L q := by
  obtain ⟨hxm, hxk⟩ := files_of_find hx
  have hxn : normF (t, x.2.1, x.2.2) = (t, x.2.1, x.2.2) := by
    have := find_norm hx
    unfold normF at this ⊢
    have h2 : betw x.2.2 x.2.1.size = x.2.2 := congrArg (fun f : Fl => f.2.2) this
    simp only
    rw [h2]
  by_cases hkt : k = t
  · subst hkt
    rw [if_pos rfl, find_mapN _ (fun g _ => by
      show (if g.1 = k then (k, x.2.1, x.2.2) else g).1 = g.1
      split
      · rename_i e; exact e.symm
      · rfl)]
    by_cases e : k = q
    · subst e
      rw [if_pos rfl, hx]
      show some (normF (if x.1 = k then (k, x.2.1, x.2.2) else x)) = _
      rw [if_pos hxk, hxn]
    · rw [if_neg e, if_neg e]
      cases hg : findF L q with
      | none => rfl
      | some g =>
        show some (normF (if g.1 = k then (k, x.2.1, x.2.2) else g)) = _
        rw [if_neg (fun e2 => e (e2.symm.trans (find_some hg).1)), find_norm hg]
  · rw [if_neg hkt]
    have hrm : ∀ g, g ∈ filesF (removeF L t) ↔ g ∈ filesF L ∧ g.1 ≠ t := fun g => by
      constructor
      · intro hg
        have h1 := files_mem hg
        rw [find_remove] at h1
        by_cases e : t = g.1
        · rw [if_pos e] at h1; cases h1
        · rw [if_neg e] at h1
          exact ⟨(files_of_find h1).1, fun e2 => e e2.symm⟩
      · rintro ⟨h1, h2⟩
        have h3 := files_mem h1
        have h4 : findF (removeF L t) g.1 = some g := by rw [find_remove, if_neg (fun e => h2 e.symm)]; exact h3
        exact (files_of_find h4).1
    have hnames : (((filesF (removeF L t)).map (fun g => if g.1 = k then (t, x.2.1, x.2.2) else g)).map (·.1)).Nodup := by
      rw [List.map_map]
      refine nodup_on (nodup_of (files_uniq (removeF L t))) (fun a ha b hb e => ?_)
      have ha' := (hrm a).1 ha
      have hb' := (hrm b).1 hb
      simp only [Function.comp] at e
      by_cases e1 : a.1 = k
      · by_cases e2 : b.1 = k
        · have h1 := files_mem ha'.1
          have h2 := files_mem hb'.1
          rw [e1] at h1
          rw [e2, h1] at h2
          exact Option.some.inj h2
        · rw [if_pos e1, if_neg e2] at e
          exact absurd e.symm hb'.2
      · by_cases e2 : b.1 = k
        · rw [if_neg e1, if_pos e2] at e
          exact absurd e ha'.2
        · rw [if_neg e1, if_neg e2] at e
          have h1 := files_mem ha'.1
          have h2 := files_mem hb'.1
          rw [e, h2] at h1
          exact (Option.some.inj h1).symm
    by_cases e : t = q
    · subst e
      rw [if_pos rfl]
      have hm : (t, x.2.1, x.2.2) ∈ (filesF (removeF L t)).map (fun g => if g.1 = k then (t, x.2.1, x.2.2) else g) :=
        List.mem_map.2 ⟨x, (hrm x).2 ⟨hxm, by rw [hxk]; exact hkt⟩, by rw [if_pos hxk]⟩
      have := find_of_mem hnames hm
      rw [hxn] at this
      exact this
    · rw [if_neg e]
      by_cases e2 : k = q
      · rw [if_pos e2]
        refine find_none (fun h => ?_)
        obtain ⟨g, hg, e3⟩ := List.mem_map.1 h
        obtain ⟨g0, hg0, rfl⟩ := List.mem_map.1 hg
        by_cases e4 : g0.1 = k
        · rw [if_pos e4] at e3; exact e e3
        · rw [if_neg e4] at e3; exact e4 (e3.trans e2.symm)
      · rw [if_neg e2]
        cases hg : findF L q with
        | none =>
          refine find_none (fun h => ?_)
          obtain ⟨g, hg1, e3⟩ := List.mem_map.1 h
          obtain ⟨g0, hg0, rfl⟩ := List.mem_map.1 hg1
          by_cases e4 : g0.1 = k
          · rw [if_pos e4] at e3; exact e e3
          · rw [if_neg e4] at e3
            have := files_mem ((hrm g0).1 hg0).1
            rw [e3, hg] at this
            cases this
        | some g =>
          obtain ⟨hm, hq⟩ := files_of_find hg
          have hm2 : g ∈ (filesF (removeF L t)).map (fun g => if g.1 = k then (t, x.2.1, x.2.2) else g) :=
            List.mem_map.2 ⟨g, (hrm g).2 ⟨hm, fun e3 => e (e3.symm.trans hq)⟩, by rw [if_neg (fun e3 => e2 (e3.symm.trans hq))]⟩
          have := find_of_mem hnames hm2
          rw [hq, find_norm hg] at this
          exact this
theorem crash_norm {K : List Kp} {f : Fl} (h : normF f = f) : normF (crashF K f) = crashF K f := by
  have hb : betw f.2.2 f.2.1.size = f.2.2 := congrArg (fun f : Fl => f.2.2) h
  have h0 := betw_le (n := f.2.2) (m := (f.2.1.size : Int)) (by omega)
  rw [hb] at h0
  have hm := more_le (K := K) h0.2
  unfold normF crashF
  simp only
  rw [betw_same (by omega) (by simp; omega)]
theorem find_crash (L : List Fl) (K : List Kp) (k : ByteArray) : findF ((filesF L).map (crashF K)) k = (findF L k).map (crashF K) := by
  rw [find_mapN (crashF K) (fun f _ => rfl)]
  cases hf : findF L k with
  | none => rfl
  | some f => show some (normF (crashF K f)) = some (crashF K f); rw [crash_norm (find_norm hf)]
/-- Disks that are the same are the same behind any op, and the op tells the same. -/
theorem did_eqv {D R : Dk} (h : Eqv D R) (o : Od) : Eqv (didF D o).1 (didF R o).1 ∧ (didF D o).2 = (didF R o).2 := by
  obtain ⟨L, T⟩ := D
  obtain ⟨M, T'⟩ := R
  obtain ⟨h1, rfl⟩ : (∀ k, findF L k = findF M k) ∧ T = T' := h
  unfold didF
  by_cases e0 : o.1 = 0
  · rw [if_pos e0, if_pos e0]
    refine ⟨⟨fun k => ?_, rfl⟩, rfl⟩
    simp only [writeF]
    rw [find_with, find_with, h1, h1]
  rw [if_neg e0, if_neg e0]
  by_cases e1 : o.1 = 1
  · rw [if_pos e1, if_pos e1]
    simp only [syncF, h1]
    split
    · exact ⟨⟨h1, rfl⟩, by first | rfl | trivial⟩
    · split
      · exact ⟨⟨h1, rfl⟩, by first | rfl | trivial⟩
      · exact ⟨⟨fun k => by simp only []; rw [find_with, find_with, h1], rfl⟩, by first | rfl | trivial⟩
  rw [if_neg e1, if_neg e1]
  by_cases e2 : o.1 = 2
  · rw [if_pos e2, if_pos e2]
    simp only [renameF]
    cases hx : findF L o.2.1 with
    | none =>
      have hx' := hx
      rw [h1] at hx'
      simp only [hx']
      exact ⟨⟨h1, rfl⟩, by first | rfl | trivial⟩
    | some x =>
      have hx' := hx
      rw [h1] at hx'
      simp only [hx']
      split
      · exact ⟨⟨h1, rfl⟩, by first | rfl | trivial⟩
      · exact ⟨⟨fun k => by simp only []; rw [find_rename hx, find_rename hx', h1], rfl⟩, by first | rfl | trivial⟩
  rw [if_neg e2, if_neg e2]
  by_cases e3 : o.1 = 3
  · rw [if_pos e3, if_pos e3]
    exact ⟨⟨fun k => by simp only []; rw [find_remove, find_remove, h1], rfl⟩, by first | rfl | trivial⟩
  rw [if_neg e3, if_neg e3]
  by_cases e4 : o.1 = 4
  · rw [if_pos e4, if_pos e4]
    simp only [cutF, h1]
    split
    · exact ⟨⟨h1, rfl⟩, by first | rfl | trivial⟩
    · exact ⟨⟨fun k => by simp only []; rw [find_with, find_with, h1], rfl⟩, by first | rfl | trivial⟩
  rw [if_neg e4, if_neg e4]
  by_cases e5 : o.1 = 5
  · rw [if_pos e5, if_pos e5]
    exact ⟨⟨fun k => by simp only []; rw [find_crash, find_crash, h1], rfl⟩, by first | rfl | trivial⟩
  rw [if_neg e5, if_neg e5]
  exact ⟨⟨h1, rfl⟩, by first | rfl | trivial⟩
end Go.Proofs.Ythdgfchmglkpaaa
