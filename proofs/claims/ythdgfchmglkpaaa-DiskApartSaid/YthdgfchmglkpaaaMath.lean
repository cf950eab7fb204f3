/-
  Mathematics of disks: files that count, faults that are met, what each call makes. No program, no condition.
-/
import Derived.Test.YthdgfchmglkpaaaChecked
namespace Go.Proofs.Ythdgfchmglkpaaa
/-- A file: its name, its bytes, how many of them are safe. A fault: its name, its kind, how many bytes. -/
abbrev Fl := ByteArray × ByteArray × Int
abbrev Ft := ByteArray × Int × Int
def betw (n m : Int) : Int := if n < 0 then 0 else if m < n then m else n
theorem betw_le {n m : Int} (h : 0 ≤ m) : 0 ≤ betw n m ∧ betw n m ≤ m := by
  unfold betw
  split
  · omega
  · split <;> omega
theorem betw_same {n m : Int} (h : 0 ≤ n) (h2 : n ≤ m) : betw n m = n := by unfold betw; rw [if_neg (by omega), if_neg (by omega)]
def normF (f : Fl) : Fl := (f.1, f.2.1, betw f.2.2 f.2.1.size)
def findF (L : List Fl) (k : ByteArray) : Option Fl := (L.find? (fun f => decide (f.1 = k))).map normF
/-- The files that count, in order. -/
def hasF (L : List Fl) (k : ByteArray) : Bool := L.any (fun g => decide (g.1 = k))
theorem has_iff (L : List Fl) (k : ByteArray) : hasF L k = true ↔ k ∈ L.map (·.1) := by
  unfold hasF
  rw [List.any_eq_true, List.mem_map]
  exact ⟨fun ⟨g, h1, h2⟩ => ⟨g, h1, of_decide_eq_true h2⟩, fun ⟨g, h1, h2⟩ => ⟨g, h1, decide_eq_true h2⟩⟩
theorem has_no {L : List Fl} {k : ByteArray} (h : ¬ hasF L k = true) : k ∉ L.map (·.1) := fun e => h ((has_iff L k).2 e)
def addF (acc : List Fl) (f : Fl) : List Fl := if hasF acc f.1 = true then acc else acc ++ [normF f]
def filesF (L : List Fl) : List Fl := L.foldl addF []
theorem files_snoc (L : List Fl) (f : Fl) : filesF (L ++ [f]) = addF (filesF L) f := by unfold filesF; rw [List.foldl_append]; rfl
theorem list_ind {α : Type} {p : List α → Prop} (h0 : p []) (h1 : ∀ l o, p l → p (l ++ [o])) (l : List α) : p l := by
  have : ∀ m : List α, p m.reverse := fun m => by
    induction m with
    | nil => exact h0
    | cons a m ih => rw [List.reverse_cons]; exact h1 _ _ ih
  rw [← List.reverse_reverse l]
  exact this _
theorem files_names (L : List Fl) (k : ByteArray) : k ∈ (filesF L).map (·.1) ↔ k ∈ L.map (·.1) := by
  refine list_ind (p := fun L => k ∈ (filesF L).map (·.1) ↔ k ∈ L.map (·.1)) Iff.rfl (fun l o ih => ?_) L
  rw [files_snoc]
  unfold addF
  split
  · rename_i h
    rw [ih, List.map_append, List.mem_append]
    constructor
    · exact Or.inl
    · rintro (h1 | h1)
      · exact h1
      · simp at h1
        subst h1
        exact ih.1 ((has_iff _ _).1 h)
  · rw [List.map_append, List.mem_append, ih, List.map_append, List.mem_append]
    rfl
theorem files_uniq (L : List Fl) : ((filesF L).map (·.1)).Nodup := by
  refine list_ind (p := fun L => ((filesF L).map (·.1)).Nodup) List.nodup_nil (fun l o ih => ?_) L
  rw [files_snoc]
  unfold addF
  split
  · exact ih
  · rename_i h
    rw [List.map_append, List.nodup_append]
    refine ⟨ih, by simp, fun a ha b hb e => ?_⟩
    simp at hb
    subst hb
    subst e
    exact has_no h ha
theorem find_snoc (L : List Fl) (f : Fl) (k : ByteArray) : findF (L ++ [f]) k = (findF L k).or (if f.1 = k then some (normF f) else none) := by
  unfold findF
  rw [List.find?_append]
  cases h : L.find? (fun f => decide (f.1 = k)) with
  | some g => rfl
  | none =>
    simp only [Option.map_none, Option.none_or, List.find?_cons, List.find?_nil]
    by_cases e : f.1 = k
    · simp [e]
    · simp [e]
theorem find_none {L : List Fl} {k : ByteArray} (h : k ∉ L.map (·.1)) : findF L k = none := by
  unfold findF
  rw [List.find?_eq_none.2 (fun f hf => by
    simp only [decide_eq_true_eq]
    exact fun e => h (List.mem_map.2 ⟨f, hf, e⟩))]
  rfl
theorem find_some {L : List Fl} {k : ByteArray} {f : Fl} (h : findF L k = some f) : f.1 = k ∧ ∃ g ∈ L, normF g = f := by
  unfold findF at h
  cases hg : L.find? (fun f => decide (f.1 = k)) with
  | none => rw [hg] at h; cases h
  | some g =>
    rw [hg] at h
    have := List.find?_some hg
    simp only [decide_eq_true_eq] at this
    obtain rfl := Option.some.inj h
    exact ⟨this, g, List.mem_of_find?_eq_some hg, rfl⟩
theorem find_mem {L : List Fl} {k : ByteArray} (h : k ∈ L.map (·.1)) : ∃ f, findF L k = some f := by
  cases hf : findF L k with
  | some f => exact ⟨f, rfl⟩
  | none =>
    unfold findF at hf
    rw [Option.map_eq_none_iff, List.find?_eq_none] at hf
    obtain ⟨g, hg, e⟩ := List.mem_map.1 h
    exact absurd (by simpa using e) (by simpa using hf g hg)
theorem norm_norm (f : Fl) : normF (normF f) = normF f := by
  unfold normF
  have := betw_le (n := f.2.2) (m := (f.2.1.size : Int)) (by omega)
  rw [betw_same this.1 this.2]
/-- What is found among the files that count is what is found among all. -/
theorem find_files (L : List Fl) (k : ByteArray) : findF (filesF L) k = findF L k := by
  refine list_ind (p := fun L => findF (filesF L) k = findF L k) rfl (fun l o ih => ?_) L
  rw [files_snoc, find_snoc]
  unfold addF
  split
  · rename_i h
    rw [ih]
    by_cases e : o.1 = k
    · subst e
      obtain ⟨f, hf⟩ := find_mem ((files_names l o.1).1 ((has_iff _ _).1 h))
      rw [hf]
      rfl
    · rw [if_neg e, Option.or_none]
  · rw [find_snoc, ih, norm_norm]
    rfl
/-- A disk with a file in the place of that of its name, or behind all. -/
def withF (L : List Fl) (f : Fl) : List Fl := if hasF (filesF L) f.1 = true then (filesF L).map (fun g => if g.1 = f.1 then f else g) else filesF L ++ [f]
/-- The faults without the first one of a name and a kind, and that. -/
def meetG (k : ByteArray) (kd : Int) (z : List Ft × Ft × Bool) (f : Ft) : List Ft × Ft × Bool := if z.2.2 = false ∧ f.1 = k ∧ f.2.1 = kd then (z.1, f, true) else (z.1 ++ [f], z.2.1, z.2.2)
def meetF (T : List Ft) (k : ByteArray) (kd : Int) : List Ft × Ft × Bool := T.foldl (meetG k kd) ([], (⟨#[]⟩, 0, 0), false)
theorem meet_snoc (T : List Ft) (f : Ft) (k : ByteArray) (kd : Int) : meetF (T ++ [f]) k kd = meetG k kd (meetF T k kd) f := by unfold meetF; rw [List.foldl_append]; rfl
theorem meet_len (T : List Ft) (k : ByteArray) (kd : Int) : (meetF T k kd).1.length ≤ T.length := by
  refine list_ind (p := fun T => (meetF T k kd).1.length ≤ T.length) (Nat.le_refl _) (fun l o ih => ?_) T
  rw [meet_snoc, List.length_append]
  unfold meetG
  split
  · simp only [List.length_singleton]; omega
  · simp only [List.length_append, List.length_singleton]; omega
end Go.Proofs.Ythdgfchmglkpaaa
