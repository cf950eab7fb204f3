/-
  The program's Rename: mathematics. No program.
-/
import Derived.Test.YthdgfchmglkpaaaChecked
import Derived.Test.YthdgfchmglkpaaaMath
import Derived.Test.YthdgfchmglkpaaaA
import Derived.Test.YthdgfchmglkpaaaF
import Derived.Test.YthdgfchmglkpaaaJ
import Derived.Test.YthdgfchmglkpaaaL
import Derived.Test.YthdgfchmglkpaaaR
import Derived.Test.YthdgfchmglkpaaaS
import Derived.Test.YthdgfchmglkpaaaVK
import Derived.Test.YthdgfchmglkpaaaWJ
import Derived.Test.YthdgfchmglkpaaaWA
import Derived.Test.YthdgfchmglkpaaaWB
import Derived.WalkKit
import Derived.WalkSpells
import Derived.WalkLawsBesides
import Derived.Deep.QuietTactic
import Derived.BigQuiet
import Derived.Lib.Hide
import Derived.Lib.SmallJoins
import Derived.Outline
import Derived.OwnWalk
import Derived.Deep.CutBlock
import Derived.BigRegion
import Derived.StillTailTactics
import Derived.Laws.AppendOwnNone
import Derived.Maps.AppendAt
import Derived.Deep.RegionLaw
import Derived.Deep.RegionHeld3
import Derived.Lib.BufferRead
import Derived.Deep.AppendLies
import Derived.Lib.SliceRun
import Derived.Laws.CopyOwn
import Derived.Lib.AppendZeros
namespace Go.Proofs.Ythdgfchmglkpaaa
open Go.RowKit
/-- The disk's files behind a Rename of the file at place i. -/
def renF (L : List Fl) (i : Nat) (k t : ByteArray) (f : Fl) : List Fl := outF k (outF t (L.take i)) ++ [(t, f.2.1, f.2.2)] ++ outF k (outF t (L.drop (i + 1)))
theorem find_app (L M : List Fl) (q : ByteArray) : findF (L ++ M) q = (findF L q).or (findF M q) := by
  unfold findF
  rw [List.find?_append]
  cases List.find? (fun f => decide (f.1 = q)) L <;> rfl
theorem find_one (x : Fl) (q : ByteArray) : findF [x] q = if x.1 = q then some (normF x) else none := by
  unfold findF
  by_cases h : x.1 = q
  · rw [if_pos h, List.find?_cons_of_pos (by simp [h])]
    rfl
  · rw [if_neg h, List.find?_cons_of_neg (by simp [h])]
    rfl
theorem find_ren {L : List Fl} {i : Nat} {k t : ByteArray} {f : Fl} (hf : L[i]? = some f) (hk : f.1 = k) (q : ByteArray) : findF (renF L i k t f) q = if t = q then some (t, f.2.1, betw f.2.2 (f.2.1.size : Int)) else if k = q then none else findF L q := by
  unfold renF
  rw [find_app, find_app, find_out, find_out, find_out, find_out, find_one]
  simp only
  by_cases h1 : t = q
  · by_cases h2 : k = q <;> simp only [h1, h2, if_true, if_false, Option.none_or, Option.or_none] <;> rfl
  · by_cases h2 : k = q
    · simp only [h1, h2, if_true, if_false, Option.none_or]
    · simp only [h1, h2, if_false, Option.or_none]
      obtain ⟨hi, e⟩ := List.getElem?_eq_some_iff.1 hf
      have e2 : L = L.take i ++ ([f] ++ L.drop (i + 1)) := by
        conv => lhs; rw [← List.take_append_drop i L, List.drop_eq_getElem_cons hi, e]
        rfl
      conv => rhs; rw [e2]
      rw [find_app, find_app, find_one]
      simp only [hk, h2, if_false, Option.none_or]
theorem ren_len (L : List Fl) (i : Nat) (k t : ByteArray) (f : Fl) : (renF L i k t f).length ≤ L.length + 1 := by
  unfold renF
  have h1 := out_len (outF t (L.take i)) k
  have h2 := out_len (L.take i) t
  have h3 := out_len (outF t (L.drop (i + 1))) k
  have h4 := out_len (L.drop (i + 1)) t
  rw [List.length_take] at h2
  rw [List.length_drop] at h4
  simp only [List.length_append, List.length_singleton]
  omega
theorem ren_sz {L : List Fl} {i m : Nat} {k t : ByteArray} {f : Fl} (hf : L[i]? = some f) (h : ∀ g ∈ L, g.2.1.size ≤ m) : ∀ g ∈ renF L i k t f, g.2.1.size ≤ m := fun g hg => by
  unfold renF at hg
  rcases List.mem_append.1 hg with hg | hg
  · rcases List.mem_append.1 hg with hg | hg
    · exact out_sz (out_sz (fun g hg => h g (List.mem_of_mem_take hg))) g hg
    · rw [List.mem_singleton.1 hg]; exact h f (List.mem_of_getElem? hf)
  · exact out_sz (out_sz (fun g hg => h g (List.mem_of_mem_drop hg))) g hg
theorem rename_no {D : Dk} {k t : ByteArray} (h : findF D.1 k = none) {w : World} {v : Value} (hv : DkAt w v D) : To w v D (renameF D k t).1 0 ∧ (renameF D k t).2 = 8 := by
  unfold renameF
  rw [h]
  exact ⟨⟨_, hv, Eqv.refl _, fun n m hn => hn.mono (Nat.le_succ _) (Nat.le_refl _)⟩, rfl⟩
theorem rename_met {L : List Fl} {T M : List Ft} {k t : ByteArray} {mt : Ft} {f : Fl} (hR : meetF T k 3 = (M, mt, true)) (hs : findF L k = some (normF f)) {w : World} {v : Value} (hv : DkAt w v (L, M)) : To w v (L, T) (renameF (L, T) k t).1 0 ∧ (renameF (L, T) k t).2 = 15 := by
  unfold renameF
  simp only [hs, hR]
  refine ⟨⟨_, hv, Eqv.refl _, fun n m hn => ⟨Nat.le_succ_of_le hn.fl, ?_, hn.sz⟩⟩, by trivial⟩
  have := meet_len T k 3
  rw [hR] at this
  exact Nat.le_succ_of_le (Nat.le_trans this hn.ft)
theorem rename_to {L : List Fl} {T M : List Ft} {k t : ByteArray} {mt : Ft} {f : Fl} {i : Nat} (hR : meetF T k 3 = (M, mt, false)) (hf : L[i]? = some f) (hk : f.1 = k) (hs : findF L k = some (normF f)) {w : World} {v : Value} (hv : DkAt w v (renF L i k t f, M)) : To w v (L, T) (renameF (L, T) k t).1 0 ∧ (renameF (L, T) k t).2 = 0 := by
  unfold renameF
  simp only [hs, hR]
  refine ⟨⟨_, hv, ⟨fun p => ?_, rfl⟩, fun n m hn => ⟨Nat.le_trans (ren_len _ _ _ _ _) (Nat.succ_le_succ hn.fl), ?_, ren_sz hf hn.sz⟩⟩, by trivial⟩
  · rw [if_neg (by simp)]
    simp only
    rw [find_ren hf hk, find_rename hs]
    rfl
  · have := meet_len T k 3
    rw [hR] at this
    exact Nat.le_succ_of_le (Nat.le_trans this hn.ft)
end Go.Proofs.Ythdgfchmglkpaaa
