/-
  How great a disk may become by an op. No condition.
-/
import Derived.Test.YthdgfchmglkpaaaChecked
import Derived.Test.YthdgfchmglkpaaaMath
import Derived.Test.YthdgfchmglkpaaaA
import Derived.Test.YthdgfchmglkpaaaC
import Derived.Test.YthdgfchmglkpaaaF
import Derived.Test.YthdgfchmglkpaaaG
import Derived.Test.YthdgfchmglkpaaaH
import Derived.Test.YthdgfchmglkpaaaI
import Derived.Test.YthdgfchmglkpaaaJ
import Derived.Test.YthdgfchmglkpaaaK
import Derived.Test.YthdgfchmglkpaaaL
import Derived.Test.YthdgfchmglkpaaaM
import Derived.Test.YthdgfchmglkpaaaN
import Derived.Test.YthdgfchmglkpaaaO
import Derived.Test.YthdgfchmglkpaaaR
import Derived.WalkKit
import Derived.WalkSpells
import Derived.WalkLawsBesides
import Derived.Deep.QuietTactic
import Derived.BigQuiet
import Derived.Lib.Hide
import Derived.Lib.SmallJoins
import Derived.Outline
import Derived.OwnWalk
import Derived.Deep.CutBlock
import Derived.BigRegion
import Derived.StillTailTactics
import Derived.Laws.AppendOwnNone
import Derived.Maps.AppendAt
import Derived.Deep.RegionLaw
import Derived.Deep.RegionHeld3
import Derived.Lib.BufferRead
import Derived.Deep.AppendLies
namespace Go.Proofs.Ythdgfchmglkpaaa
open Go.RowKit
/-- No more files, no more faults than so many, none of more bytes than so many. -/
structure Lim (n m : Nat) (D : Dk) : Prop where
  fl : D.1.length ≤ n
  ft : D.2.length ≤ n
  sz : ∀ f ∈ D.1, f.2.1.size ≤ m
theorem Lim.mono {n n' m m' : Nat} {D : Dk} (h : Lim n m D) (hn : n ≤ n') (hm : m ≤ m') : Lim n' m' D := ⟨Nat.le_trans h.fl hn, Nat.le_trans h.ft hn, fun f hf => Nat.le_trans (h.sz f hf) hm⟩
theorem files_sz {L : List Fl} {m : Nat} (h : ∀ f ∈ L, f.2.1.size ≤ m) : ∀ f ∈ filesF L, f.2.1.size ≤ m := fun f hf => by
  obtain ⟨g, hg, rfl⟩ := files_norm hf
  exact h g hg
theorem with_lim {L : List Fl} {n m : Nat} (hl : L.length ≤ n) (h : ∀ f ∈ L, f.2.1.size ≤ m) {f : Fl} (hf : f.2.1.size ≤ m) : (withF L f).length ≤ n + 1 ∧ ∀ g ∈ withF L f, g.2.1.size ≤ m := by
  have h1 := files_len L
  have h2 := files_sz h
  unfold withF
  split
  · refine ⟨by rw [List.length_map]; omega, fun g hg => ?_⟩
    obtain ⟨x, hx, rfl⟩ := List.mem_map.1 hg
    split
    · exact hf
    · exact h2 x hx
  · refine ⟨by rw [List.length_append, List.length_singleton]; omega, fun g hg => ?_⟩
    rcases List.mem_append.1 hg with hg | hg
    · exact h2 g hg
    · rw [List.mem_singleton.1 hg]; exact hf
theorem remove_lim {L : List Fl} {n m : Nat} (hl : L.length ≤ n) (h : ∀ f ∈ L, f.2.1.size ≤ m) (t : ByteArray) : (removeF L t).length ≤ n ∧ ∀ g ∈ removeF L t, g.2.1.size ≤ m :=
  ⟨Nat.le_trans (remove_len L t) hl, fun g hg => files_sz h g (by unfold removeF at hg; exact (List.mem_filter.1 hg).1)⟩
theorem found_sz {L : List Fl} {k : ByteArray} {x : Fl} {m : Nat} (h : ∀ f ∈ L, f.2.1.size ≤ m) (hx : findF L k = some x) : x.2.1.size ≤ m := files_sz h x (files_of_find hx).1
theorem did_lim {n m s : Nat} {D : Dk} (h : Lim n m D) (o : Od) (hs : o.2.2.1.size ≤ s) : Lim (n + 1) (m + s) (didF D o).1 := by
  have hm : ∀ f ∈ D.1, f.2.1.size ≤ m + s := fun f hf => by have := h.sz f hf; omega
  have ht := h.ft
  have hfl := h.fl
  unfold didF
  by_cases e0 : o.1 = 0
  · rw [if_pos e0]
    have hw := with_lim (f := (o.2.1, ((findF D.1 o.2.1).getD noF).2.1 ++ cutS o.2.2.1 (meetF D.2 o.2.1 1).2.2 (meetF D.2 o.2.1 1).2.1.2.2, ((findF D.1 o.2.1).getD noF).2.2)) h.fl hm (by
      have h1 := find_size h.sz o.2.1
      have h2 := cutS_le o.2.2.1 (meetF D.2 o.2.1 1).2.2 (meetF D.2 o.2.1 1).2.1.2.2
      simp only [ByteArray.size_append]
      omega)
    exact ⟨hw.1, by have := meet_len D.2 o.2.1 1; simp only [writeF]; omega, hw.2⟩
  rw [if_neg e0]
  by_cases e1 : o.1 = 1
  · rw [if_pos e1]
    simp only [syncF]
    split
    · exact ⟨by simp only; omega, by simp only; omega, hm⟩
    · rename_i x hx
      split
      · exact ⟨by simp only; omega, by have := meet_len D.2 o.2.1 2; simp only; omega, hm⟩
      · have hw := with_lim (f := (x.1, x.2.1, (x.2.1.size : Int))) h.fl hm (by have := found_sz h.sz hx; simp only; omega)
        exact ⟨hw.1, by have := meet_len D.2 o.2.1 2; simp only; omega, hw.2⟩
  rw [if_neg e1]
  by_cases e2 : o.1 = 2
  · rw [if_pos e2]
    simp only [renameF]
    split
    · exact ⟨by simp only; omega, by simp only; omega, hm⟩
    · rename_i x hx
      split
      · exact ⟨by simp only; omega, by have := meet_len D.2 o.2.1 3; simp only; omega, hm⟩
      · have hr : ∀ (M : List Fl), M.length ≤ n → (∀ f ∈ M, f.2.1.size ≤ m + s) → ((filesF M).map (fun g => if g.1 = o.2.1 then ((o.2.2.1, x.2.1, x.2.2) : Fl) else g)).length ≤ n + 1 ∧ ∀ g ∈ (filesF M).map (fun g => if g.1 = o.2.1 then ((o.2.2.1, x.2.1, x.2.2) : Fl) else g), g.2.1.size ≤ m + s := fun M hM1 hM2 => by
          have h1 := files_len M
          refine ⟨by rw [List.length_map]; omega, fun g hg => ?_⟩
          obtain ⟨y, hy, rfl⟩ := List.mem_map.1 hg
          split
          · have := found_sz h.sz hx; simp only; omega
          · exact files_sz hM2 y hy
        have hrm := remove_lim h.fl hm o.2.2.1
        have hb := hr (if o.2.1 = o.2.2.1 then D.1 else removeF D.1 o.2.2.1) (by split; exact h.fl; exact hrm.1) (by split; exact hm; exact hrm.2)
        exact ⟨hb.1, by have := meet_len D.2 o.2.1 3; simp only; omega, hb.2⟩
  rw [if_neg e2]
  by_cases e3 : o.1 = 3
  · rw [if_pos e3]
    have hrm := remove_lim h.fl hm o.2.1
    exact ⟨by have := hrm.1; simp only; omega, by simp only; omega, hrm.2⟩
  rw [if_neg e3]
  by_cases e4 : o.1 = 4
  · rw [if_pos e4]
    simp only [cutF]
    split
    · exact ⟨by simp only; omega, by simp only; omega, hm⟩
    · rename_i x hx
      have hw := with_lim (f := (x.1, cutD x.2.1 o.2.2.2, betw x.2.2 ((cutD x.2.1 o.2.2.2).size : Int))) h.fl hm (by
        have := found_sz h.sz hx
        simp only [cutD, ByteArray.size_extract]
        omega)
      exact ⟨hw.1, by simp only; omega, hw.2⟩
  rw [if_neg e4]
  by_cases e5 : o.1 = 5
  · rw [if_pos e5]
    refine ⟨by have := files_len D.1; simp only [List.length_map]; omega, Nat.zero_le _, fun g hg => ?_⟩
    obtain ⟨y, hy, rfl⟩ := List.mem_map.1 hg
    have := files_sz hm y hy
    simp only [crashF, ByteArray.size_extract]
    omega
  rw [if_neg e5]
  exact ⟨by simp only [faultyF]; omega, by simp only [faultyF, List.length_append, List.length_singleton]; omega, hm⟩
/-- What a call tells of a disk: a disk like that one, and not much greater. -/
def To (w' : World) (v' : Value) (D R : Dk) (s : Nat) : Prop := ∃ D', DkAt w' v' D' ∧ Eqv D' R ∧ ∀ n m, Lim n m D → Lim (n + 1) (m + s) D'
def readF (D : Dk) (k : ByteArray) : ByteArray × Int := match findF D.1 k with
  | none => (⟨#[]⟩, 8)
  | some x => (x.2.1, 0)
def safeF (D : Dk) (k : ByteArray) : ByteArray := match findF D.1 k with
  | none => ⟨#[]⟩
  | some x => x.2.1.extract 0 x.2.2.toNat
/-- Disks of the size that a call is asked for. -/
abbrev Okd (D : Dk) : Prop := Lim 1000000 1152921504606846976 D
theorem Okd.few {D : Dk} (h : Okd D) : Few D := ⟨h.fl, h.ft⟩
end Go.Proofs.Ythdgfchmglkpaaa
