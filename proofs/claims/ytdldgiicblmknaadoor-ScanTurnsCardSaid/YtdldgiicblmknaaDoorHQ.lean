/-
  What holds of a table when a key comes, has another value, or goes. Mathematics; no condition.
-/
import Derived.Test.YtdldgiicblmknaaDoorHP
namespace Go.Proofs.YtdldgiicblmknaaDoor
open Go.RowKit

theorem plOk_set {seed : Int} {l : List (List En)} (h : PlOk seed l) {M : Nat} (d : List En) (hd : ∀ x ∈ d, num seed x.2.1 % l.length = M) : PlOk seed (l.set M d) := by
  intro i c hc x hx
  rw [List.length_set]
  by_cases hi : M = i
  · subst hi
    by_cases hM : M < l.length
    · rw [List.getElem?_set_self hM] at hc; cases hc; exact hd x hx
    · rw [List.getElem?_eq_none (by simp; omega)] at hc; cases hc
  · rw [List.getElem?_set_ne hi] at hc
    exact h i c hc x hx
theorem perm_val {α : Type} [DecidableEq α] {D N A B : List α} {e e' : α} (h : (D ++ (A ++ e :: B)).Perm (N ++ (A ++ e' :: B))) (he : e ∈ N) : ∃ R, N.Perm (e :: R) ∧ D.Perm (e' :: R) := by
  have hN := List.perm_cons_erase he
  refine ⟨N.erase e, hN, List.perm_iff_count.2 fun x => ?_⟩
  have h1 := List.perm_iff_count.1 h x
  have h2 := List.perm_iff_count.1 hN x
  simp only [List.count_append, List.count_cons] at h1 h2 ⊢
  omega
theorem perm_drop {α : Type} [DecidableEq α] {D N A B : List α} {e : α} (h : (D ++ (A ++ e :: B)).Perm (N ++ (A ++ B))) : N.Perm (e :: D) := by
  refine List.perm_iff_count.2 fun x => ?_
  have h1 := List.perm_iff_count.1 h x
  simp only [List.count_append, List.count_cons] at h1 ⊢
  omega
/-- Another value at a key's place. -/
def ValX (X G : Tb) (key : ByteArray) (v : Int) : Prop :=
  (∃ (M : Nat) (A : List En) (e : En) (B : List En), X.old[M]? = some (A ++ e :: B) ∧ e.2.1 = key ∧ G = { X with old := X.old.set M (A ++ (e.1, e.2.1, v) :: B) }) ∨ (∃ (M : Nat) (A : List En) (e : En) (B : List En), X.new[M]? = some (A ++ e :: B) ∧ e.2.1 = key ∧ G = { X with new := X.new.set M (A ++ (e.1, e.2.1, v) :: B) })
/-- A key's place without it. -/
def GoneX (X G : Tb) (key : ByteArray) : Prop :=
  (∃ (M : Nat) (A : List En) (e : En) (B : List En), X.old[M]? = some (A ++ e :: B) ∧ e.2.1 = key ∧ G = { X with old := X.old.set M (A ++ B) }) ∨ (∃ (M : Nat) (A : List En) (e : En) (B : List En), X.new[M]? = some (A ++ e :: B) ∧ e.2.1 = key ∧ G = { X with new := X.new.set M (A ++ B) })
/-- What came: another value of a key that is there. -/
structure Valued (X G : Tb) (key : ByteArray) (v : Int) : Prop where
  ents : ∃ b old R, X.ents.Perm ((b, key, old) :: R) ∧ G.ents.Perm ((b, key, v) :: R)
  inv : Inv G
  len : G.old.length = X.old.length ∧ G.new.length = X.new.length ∧ G.moved = X.moved ∧ G.count = X.count
  same : G.T = X.T ∧ G.seed = X.seed
  blk : ∀ x ∈ G.blocks, x ∈ X.blocks
  ex : ValX X G key v
structure Gone (X G : Tb) (key : ByteArray) : Prop where
  ents : ∃ e, e.2.1 = key ∧ X.ents.Perm (e :: G.ents)
  nd : (G.ents.map fun e => e.2.1).Nodup
  good : Good G
  emp : G.new ≠ [] → ∀ i, i < G.moved → G.old[i]? = some []
  pl0 : PlOk G.seed G.old
  pl1 : PlOk G.seed G.new
  ext : G.ext = []
  len : G.old.length = X.old.length ∧ G.new.length = X.new.length ∧ G.moved = X.moved ∧ G.count = X.count
  same : G.T = X.T ∧ G.seed = X.seed
  blk : ∀ x ∈ G.blocks, x ∈ X.blocks
  ex : GoneX X G key

theorem valued_old {X : Tb} (h : Inv X) {key : ByteArray} {a : Addr} {b M : Nat} {A : List En} {e : En} {B : List En} (hl : Loc X.p0 X.old key a b M A e B) (v : Int) (hkz : key.size ≤ 1000) : Valued X { X with old := X.old.set M (A ++ (e.1, e.2.1, v) :: B) } key v := by
  have hfs := flatten_set (A ++ (e.1, e.2.1, v) :: B) X.old M (A ++ e :: B) hl.at_
  obtain ⟨R, hN, hD⟩ := perm_val hfs hl.mem
  obtain ⟨R', hX, hG⟩ : ∃ R', X.ents.Perm (e :: R') ∧ ({ X with old := X.old.set M (A ++ (e.1, e.2.1, v) :: B) } : Tb).ents.Perm ((e.1, e.2.1, v) :: R') := ⟨R ++ (X.new.flatten ++ X.ext), by unfold Tb.ents; exact (hN.append_right _).trans (by rw [List.cons_append]), by unfold Tb.ents; exact (hD.append_right _).trans (by rw [List.cons_append])⟩
  have hkx : (X.ents.map fun e => e.2.1).Perm (({ X with old := X.old.set M (A ++ (e.1, e.2.1, v) :: B) } : Tb).ents.map fun e => e.2.1) := by
    refine (hX.map _).trans (List.Perm.trans ?_ (hG.map _).symm)
    simp
  have hb : (X.ents.map Prod.fst).Perm (({ X with old := X.old.set M (A ++ (e.1, e.2.1, v) :: B) } : Tb).ents.map Prod.fst) := by
    refine (hX.map _).trans (List.Perm.trans ?_ (hG.map _).symm)
    simp
  refine ⟨⟨e.1, e.2.2, R', by rw [← hl.key]; exact hX, by rw [← hl.key]; exact hG⟩, ⟨⟨h.good.seed, ?_, ?_, ?_, ?_, h.good.ct⟩, ?_, ?_, ?_, ?pl, h.pl1, h.ext⟩, ⟨by simp, by simp, rfl, rfl⟩, ⟨rfl, rfl⟩, ?_, Or.inl ⟨M, A, e, B, hl.at_, hl.key, rfl⟩⟩
  case pl =>
    refine plOk_set h.pl0 _ (fun x hx => ?_)
    have h1 := h.pl0 M _ hl.at_
    rcases List.mem_append.1 hx with hx | hx
    · exact h1 x (by simp [hx])
    · rcases List.mem_cons.1 hx with rfl | hx
      · exact h1 e (by simp)
      · exact h1 x (by simp [hx])
  · show ∃ k, SzOk (X.old.set M _).length k; rw [List.length_set]; exact h.good.s0
  · exact h.good.s1
  · intro hn; show X.moved < (X.old.set M _).length; rw [List.length_set]; exact h.good.mv hn
  · intro x hx
    rcases List.mem_cons.1 (hG.mem_iff.1 hx) with rfl | hx
    · exact hl.key ▸ hkz
    · exact h.good.ks x (hX.mem_iff.2 (List.mem_cons_of_mem _ hx))
  · intro hn i hi
    have h1 := h.emp hn i hi
    have hne : M ≠ i := by intro hh; subst hh; rw [hl.at_] at h1; simp at h1
    show (X.old.set M _)[i]? = some []
    rw [List.getElem?_set_ne hne]; exact h1
  · have := hkx.length_eq
    simp only [List.length_map] at this
    exact h.cnt.trans this
  · exact (List.Perm.nodup_iff hkx).1 h.nd
  · intro x hx
    unfold Tb.blocks at hx ⊢
    simp only [List.mem_cons, List.mem_append] at hx ⊢
    rcases hx with hx | hx | hx | hx
    · exact Or.inl hx
    · exact Or.inr (Or.inl hx)
    · exact Or.inr (Or.inr (Or.inl hx))
    · exact Or.inr (Or.inr (Or.inr (hb.mem_iff.2 hx)))
theorem gone_old {X : Tb} (h : Inv X) {key : ByteArray} {a : Addr} {b M : Nat} {A : List En} {e : En} {B : List En} (hl : Loc X.p0 X.old key a b M A e B) : Gone X { X with old := X.old.set M (A ++ B) } key := by
  have hN := perm_drop (flatten_set (A ++ B) X.old M (A ++ e :: B) hl.at_)
  have hX : X.ents.Perm (e :: ({ X with old := X.old.set M (A ++ B) } : Tb).ents) := by unfold Tb.ents; exact (hN.append_right _).trans (by rw [List.cons_append])
  have hsub : ∀ x ∈ ({ X with old := X.old.set M (A ++ B) } : Tb).ents, x ∈ X.ents := fun x hx => hX.mem_iff.2 (List.mem_cons_of_mem _ hx)
  have hnd := (List.Perm.nodup_iff (hX.map fun e => e.2.1)).1 h.nd
  rw [List.map_cons, List.nodup_cons] at hnd
  refine ⟨⟨e, hl.key, hX⟩, hnd.2, ⟨h.good.seed, ?_, ?_, ?_, fun x hx => h.good.ks x (hsub x hx), h.good.ct⟩, ?_, ?pl, h.pl1, h.ext, ⟨by simp, by simp, rfl, rfl⟩, ⟨rfl, rfl⟩, ?_, Or.inl ⟨M, A, e, B, hl.at_, hl.key, rfl⟩⟩
  case pl =>
    refine plOk_set h.pl0 _ (fun x hx => ?_)
    have h1 := h.pl0 M _ hl.at_
    rcases List.mem_append.1 hx with hx | hx
    · exact h1 x (by simp [hx])
    · exact h1 x (by simp [hx])
  · show ∃ k, SzOk (X.old.set M _).length k; rw [List.length_set]; exact h.good.s0
  · exact h.good.s1
  · intro hn; show X.moved < (X.old.set M _).length; rw [List.length_set]; exact h.good.mv hn
  · intro hn i hi
    have h1 := h.emp hn i hi
    have hne : M ≠ i := by intro hh; subst hh; rw [hl.at_] at h1; simp at h1
    show (X.old.set M _)[i]? = some []
    rw [List.getElem?_set_ne hne]; exact h1
  · intro x hx
    unfold Tb.blocks at hx ⊢
    simp only [List.mem_cons, List.mem_append] at hx ⊢
    rcases hx with hx | hx | hx | hx
    · exact Or.inl hx
    · exact Or.inr (Or.inl hx)
    · exact Or.inr (Or.inr (Or.inl hx))
    · obtain ⟨y, hy, rfl⟩ := List.mem_map.1 hx
      exact Or.inr (Or.inr (Or.inr (List.mem_map_of_mem (hsub y hy))))
theorem ins_old {Z : Tb} (h : Inv Z) (e : En) (hk : e.2.1.size ≤ 1000) (hno : ∀ x ∈ Z.ents, x.2.1 ≠ e.2.1) (hc : Z.count + 1 ≤ 1000000) (hn : Z.new = [] ∧ Z.old ≠ []) :
    Inv { Z with old := pushL Z.seed Z.old e, count := Z.count + 1, ext := [] } ∧ ({ Z with old := pushL Z.seed Z.old e, count := Z.count + 1, ext := [] } : Tb).ents.Perm (e :: Z.ents) := by
  have hp := pushL_perm Z.seed Z.old e (List.length_pos_iff.2 hn.2)
  have hP : ({ Z with old := pushL Z.seed Z.old e, count := Z.count + 1, ext := [] } : Tb).ents.Perm (e :: Z.ents) := by
    unfold Tb.ents
    rw [h.ext]
    exact (hp.append_right _).trans (by rw [List.cons_append])
  refine ⟨⟨⟨h.good.seed, ?_, ?_, ?_, ?_, hc⟩, ?_, ?_, ?_, pushL_ok _ _ _ h.pl0, h.pl1, rfl⟩, hP⟩
  · show ∃ k, SzOk (pushL _ _ _).length k; rw [pushL_len]; exact h.good.s0
  · exact h.good.s1
  · intro hh; exact absurd hn.1 hh
  · intro x hx
    rcases List.mem_cons.1 (hP.mem_iff.1 hx) with rfl | hx
    · exact hk
    · exact h.good.ks x hx
  · intro hh; exact absurd hn.1 hh
  · have := hP.length_eq
    simp only [List.length_cons] at this
    rw [this, ← h.cnt]
  · refine (List.Perm.nodup_iff (hP.map fun e => e.2.1)).2 ?_
    rw [List.map_cons, List.nodup_cons]
    refine ⟨fun hm => ?_, h.nd⟩
    obtain ⟨x, hx, he⟩ := List.mem_map.1 hm
    exact hno x hx he

theorem valued_new {X : Tb} (h : Inv X) {key : ByteArray} {a : Addr} {b M : Nat} {A : List En} {e : En} {B : List En} (hl : Loc X.p1 X.new key a b M A e B) (v : Int) (hkz : key.size ≤ 1000) : Valued X { X with new := X.new.set M (A ++ (e.1, e.2.1, v) :: B) } key v := by
  have hfs := flatten_set (A ++ (e.1, e.2.1, v) :: B) X.new M (A ++ e :: B) hl.at_
  obtain ⟨R, hN, hD⟩ := perm_val hfs hl.mem
  obtain ⟨R', hX, hG⟩ : ∃ R', X.ents.Perm (e :: R') ∧ ({ X with new := X.new.set M (A ++ (e.1, e.2.1, v) :: B) } : Tb).ents.Perm ((e.1, e.2.1, v) :: R') := ⟨X.old.flatten ++ (R ++ X.ext), by unfold Tb.ents; exact ((hN.append_right _).append_left _).trans List.perm_middle, by unfold Tb.ents; exact ((hD.append_right _).append_left _).trans List.perm_middle⟩
  have hkx : (X.ents.map fun e => e.2.1).Perm (({ X with new := X.new.set M (A ++ (e.1, e.2.1, v) :: B) } : Tb).ents.map fun e => e.2.1) := by
    refine (hX.map _).trans (List.Perm.trans ?_ (hG.map _).symm)
    simp
  have hb : (X.ents.map Prod.fst).Perm (({ X with new := X.new.set M (A ++ (e.1, e.2.1, v) :: B) } : Tb).ents.map Prod.fst) := by
    refine (hX.map _).trans (List.Perm.trans ?_ (hG.map _).symm)
    simp
  refine ⟨⟨e.1, e.2.2, R', by rw [← hl.key]; exact hX, by rw [← hl.key]; exact hG⟩, ⟨⟨h.good.seed, ?_, ?_, ?_, ?_, h.good.ct⟩, ?_, ?_, ?_, h.pl0, ?pl, h.ext⟩, ⟨by simp, by simp, rfl, rfl⟩, ⟨rfl, rfl⟩, ?_, Or.inr ⟨M, A, e, B, hl.at_, hl.key, rfl⟩⟩
  case pl =>
    refine plOk_set h.pl1 _ (fun x hx => ?_)
    have h1 := h.pl1 M _ hl.at_
    rcases List.mem_append.1 hx with hx | hx
    · exact h1 x (by simp [hx])
    · rcases List.mem_cons.1 hx with rfl | hx
      · exact h1 e (by simp)
      · exact h1 x (by simp [hx])
  · exact h.good.s0
  · show ∃ k, SzOk (X.new.set M _).length k; rw [List.length_set]; exact h.good.s1
  · intro hn
    have hn' : X.new ≠ [] := by intro hh; apply hn; show X.new.set M _ = []; rw [hh]; rfl
    exact h.good.mv hn'
  · intro x hx
    rcases List.mem_cons.1 (hG.mem_iff.1 hx) with rfl | hx
    · exact hl.key ▸ hkz
    · exact h.good.ks x (hX.mem_iff.2 (List.mem_cons_of_mem _ hx))
  · intro hn i hi
    have hn' : X.new ≠ [] := by intro hh; apply hn; show X.new.set M _ = []; rw [hh]; rfl
    exact h.emp hn' i hi
  · have := hkx.length_eq
    simp only [List.length_map] at this
    exact h.cnt.trans this
  · exact (List.Perm.nodup_iff hkx).1 h.nd
  · intro x hx
    unfold Tb.blocks at hx ⊢
    simp only [List.mem_cons, List.mem_append] at hx ⊢
    rcases hx with hx | hx | hx | hx
    · exact Or.inl hx
    · exact Or.inr (Or.inl hx)
    · exact Or.inr (Or.inr (Or.inl hx))
    · exact Or.inr (Or.inr (Or.inr (hb.mem_iff.2 hx)))
theorem gone_new {X : Tb} (h : Inv X) {key : ByteArray} {a : Addr} {b M : Nat} {A : List En} {e : En} {B : List En} (hl : Loc X.p1 X.new key a b M A e B) : Gone X { X with new := X.new.set M (A ++ B) } key := by
  have hN := perm_drop (flatten_set (A ++ B) X.new M (A ++ e :: B) hl.at_)
  have hX : X.ents.Perm (e :: ({ X with new := X.new.set M (A ++ B) } : Tb).ents) := by unfold Tb.ents; exact ((hN.append_right _).append_left _).trans List.perm_middle
  have hsub : ∀ x ∈ ({ X with new := X.new.set M (A ++ B) } : Tb).ents, x ∈ X.ents := fun x hx => hX.mem_iff.2 (List.mem_cons_of_mem _ hx)
  have hnd := (List.Perm.nodup_iff (hX.map fun e => e.2.1)).1 h.nd
  rw [List.map_cons, List.nodup_cons] at hnd
  refine ⟨⟨e, hl.key, hX⟩, hnd.2, ⟨h.good.seed, ?_, ?_, ?_, fun x hx => h.good.ks x (hsub x hx), h.good.ct⟩, ?_, h.pl0, ?pl, h.ext, ⟨by simp, by simp, rfl, rfl⟩, ⟨rfl, rfl⟩, ?_, Or.inr ⟨M, A, e, B, hl.at_, hl.key, rfl⟩⟩
  case pl =>
    refine plOk_set h.pl1 _ (fun x hx => ?_)
    have h1 := h.pl1 M _ hl.at_
    rcases List.mem_append.1 hx with hx | hx
    · exact h1 x (by simp [hx])
    · exact h1 x (by simp [hx])
  · exact h.good.s0
  · show ∃ k, SzOk (X.new.set M _).length k; rw [List.length_set]; exact h.good.s1
  · intro hn
    have hn' : X.new ≠ [] := by intro hh; apply hn; show X.new.set M _ = []; rw [hh]; rfl
    exact h.good.mv hn'
  · intro hn i hi
    have hn' : X.new ≠ [] := by intro hh; apply hn; show X.new.set M _ = []; rw [hh]; rfl
    exact h.emp hn' i hi
  · intro x hx
    unfold Tb.blocks at hx ⊢
    simp only [List.mem_cons, List.mem_append] at hx ⊢
    rcases hx with hx | hx | hx | hx
    · exact Or.inl hx
    · exact Or.inr (Or.inl hx)
    · exact Or.inr (Or.inr (Or.inl hx))
    · obtain ⟨y, hy, rfl⟩ := List.mem_map.1 hx
      exact Or.inr (Or.inr (Or.inr (List.mem_map_of_mem (hsub y hy))))
theorem ins_new {Z : Tb} (h : Inv Z) (e : En) (hk : e.2.1.size ≤ 1000) (hno : ∀ x ∈ Z.ents, x.2.1 ≠ e.2.1) (hc : Z.count + 1 ≤ 1000000) (hn : Z.new ≠ []) :
    Inv { Z with new := pushL Z.seed Z.new e, count := Z.count + 1, ext := [] } ∧ ({ Z with new := pushL Z.seed Z.new e, count := Z.count + 1, ext := [] } : Tb).ents.Perm (e :: Z.ents) := by
  have hp := pushL_perm Z.seed Z.new e (List.length_pos_iff.2 hn)
  have hP : ({ Z with new := pushL Z.seed Z.new e, count := Z.count + 1, ext := [] } : Tb).ents.Perm (e :: Z.ents) := by
    unfold Tb.ents
    rw [h.ext]
    exact ((hp.append_right _).append_left _).trans List.perm_middle
  refine ⟨⟨⟨h.good.seed, ?_, ?_, ?_, ?_, hc⟩, ?_, ?_, ?_, h.pl0, pushL_ok _ _ _ h.pl1, rfl⟩, hP⟩
  · exact h.good.s0
  · show ∃ k, SzOk (pushL _ _ _).length k; rw [pushL_len]; exact h.good.s1
  · intro _; exact h.good.mv hn
  · intro x hx
    rcases List.mem_cons.1 (hP.mem_iff.1 hx) with rfl | hx
    · exact hk
    · exact h.good.ks x hx
  · intro _; exact h.emp hn
  · have := hP.length_eq
    simp only [List.length_cons] at this
    rw [this, ← h.cnt]
  · refine (List.Perm.nodup_iff (hP.map fun e => e.2.1)).2 ?_
    rw [List.map_cons, List.nodup_cons]
    refine ⟨fun hm => ?_, h.nd⟩
    obtain ⟨x, hx, he⟩ := List.mem_map.1 hm
    exact hno x hx he

end Go.Proofs.YtdldgiicblmknaaDoor
