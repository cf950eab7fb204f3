/-
  All turns of a table that does not change, together: each key once. Mathematics; no condition.
-/
import Derived.Test.YtdldgiicblmknaaDoorSA
namespace Go.Proofs.YtdldgiicblmknaaDoor

/-- The cursors of a whole walk are all places, each once. -/
theorem revs_perm (s : Nat) : ((List.range (2 ^ s)).map (rev s)).Perm (List.range (2 ^ s)) := by
  refine (List.perm_ext_iff_of_nodup ?_ List.nodup_range).2 ?_
  · rw [List.nodup_iff_pairwise_ne, List.pairwise_map]
    refine List.Pairwise.imp_of_mem ?_ (List.nodup_iff_pairwise_ne.1 List.nodup_range)
    intro a b ha hb hne hh
    exact hne (rev_inj s (List.mem_range.1 ha) (List.mem_range.1 hb) hh)
  · intro x
    constructor
    · intro hx
      obtain ⟨i, _, rfl⟩ := List.mem_map.1 hx
      exact List.mem_range.2 (rev_lt s i)
    · intro hx
      exact List.mem_map.2 ⟨rev s x, List.mem_range.2 (rev_lt s x), by rw [rev_rev, Nat.mod_eq_of_lt (List.mem_range.1 hx)]⟩
theorem flat_range {α : Type} (l : List (List α)) : (List.range l.length).flatMap (fun i => l.getD i []) = l.flatten := by
  induction l with
  | nil => rfl
  | cons a l ih =>
    rw [List.length_cons, List.range_succ_eq_map, List.flatMap_cons, List.flatMap_map]
    simp only [List.getD_cons_zero, List.getD_cons_succ, List.flatten_cons]
    rw [ih]
theorem flatMap_append_perm {α β : Type} (f g : α → List β) (l : List α) : (l.flatMap fun x => f x ++ g x).Perm (l.flatMap f ++ l.flatMap g) := by
  induction l with
  | nil => simp
  | cons a l ih =>
    rw [List.flatMap_cons, List.flatMap_cons, List.flatMap_cons]
    refine (List.Perm.append_left _ ih).trans ?_
    rw [List.append_assoc, List.append_assoc]
    refine List.Perm.append_left _ ?_
    rw [← List.append_assoc, ← List.append_assoc]
    exact List.Perm.append_right _ List.perm_append_comm
/-- All turns of a table that is not parted. -/
theorem all_one {α : Type} (s : Nat) (l : List (List α)) (h : l.length = 2 ^ s) : ((List.range (2 ^ s)).flatMap fun i => l.getD (rev s i) []).Perm l.flatten := by
  have h1 := (revs_perm s).flatMap_right (fun i => l.getD i [])
  rw [List.flatMap_map] at h1
  refine h1.trans ?_
  rw [← h, flat_range]
theorem flat_two {α : Type} (b : List (List α)) (n : Nat) (h : b.length = n + n) : ((List.range n).flatMap fun i => b.getD i [] ++ b.getD (i + n) []).Perm b.flatten := by
  refine (flatMap_append_perm _ _ _).trans ?_
  rw [← flat_range b, h, List.range_add, List.flatMap_append, List.flatMap_map]
  refine List.Perm.append_left _ ?_
  rw [show (fun i => b.getD (i + n) []) = fun i => b.getD (n + i) [] from funext fun i => by rw [Nat.add_comm]]
/-- All turns of a parted one. -/
theorem all_two {α : Type} (s : Nat) (a b : List (List α)) (ha : a.length = 2 ^ s) (hb : b.length = 2 * 2 ^ s) : ((List.range (2 ^ s)).flatMap fun i => a.getD (rev s i) [] ++ (b.getD (rev s i) [] ++ b.getD (rev s i + 2 ^ s) [])).Perm (a.flatten ++ b.flatten) := by
  have h1 := (revs_perm s).flatMap_right (fun i => a.getD i [] ++ (b.getD i [] ++ b.getD (i + 2 ^ s) []))
  rw [List.flatMap_map] at h1
  refine h1.trans ((flatMap_append_perm _ _ _).trans ?_)
  refine List.Perm.append ?_ (flat_two b _ (by omega))
  rw [← ha, flat_range]
/-- Where a walk is behind so many turns. -/
theorem walk_at (s i : Nat) (h : i < 2 ^ s) : nxt s (rev s i) = rev s (i + 1) ∧ (nxt s (rev s i) = 0 ↔ i + 1 = 2 ^ s) := by
  have h1 := nxt_rev s i h
  refine ⟨h1, ?_⟩
  rw [h1]
  constructor
  · intro h2
    rcases Nat.lt_or_ge (i + 1) (2 ^ s) with h3 | h3
    · exact absurd h2 (rev_ne s _ (by omega) h3)
    · omega
  · intro h2; rw [h2, rev_pow]

end Go.Proofs.YtdldgiicblmknaaDoor
