/-
  The walk of Feed of a dead Input; rows of requests one behind the other. Premises: where they are written.
-/
import Derived.Test.YtjcicbkjngpcoaaGreatDoorQM
import Derived.Test.YtjcicbkjngpcoaaGreatDoorQN
namespace Go.Proofs.YtjcicbkjngpcoaaGreatDoor
open Go.RowKit Dec Pq S4

set_option maxRecDepth 100000 in
set_option maxHeartbeats 2000000 in
theorem feed_deadI (b : ByteArray) (la lb ll d : Int) (w : World) (hd : (d != 0) = true) :
    Calls Tryz.prog 7 #[.agg #[.string ⟨#[]⟩, .slice none 0 0, .int .i64 0, .int .i64 0, .bool false, .int .i64 0, .int .i64 d], .string b, .agg #[.int .i64 la, .int .i64 lb, .int .i64 ll]] w fun e w' =>
      e = .returned (.tuple #[.agg #[.string ⟨#[]⟩, .slice none 0 0, .int .i64 0, .int .i64 0, .bool false, .int .i64 0, .int .i64 d], .slice none 0 0, .int .i64 d]) ∧ Below w.heap.size w w' := by
  go_enter Tryz.func7, Tryz.ntmps7
  go_upto_region 3 with (go_at_call 16; ((with_reducible refine (row_nil _).mono ?_); rintro e w1 ⟨rfl, rfl⟩))
  go_region
  all_goals go_wp2_with fail
  all_goals (
    refine bodyPost_ret (v := .tuple #[.agg #[.string ⟨#[]⟩, .slice none 0 0, .int .i64 0, .int .i64 0, .bool false, .int .i64 0, .int .i64 d], .slice none 0 0, .int .i64 d]) (by simp [results, Tryz.results7, go_sem]) rfl ⟨rfl, ?_⟩
    exact Below.drew ((((Below.refl _ _).alloc (Nat.le_refl _) _).alloc (by simp) _).alloc (by simp; omega) _))
theorem add_next (a : Addr) (k : Nat) : a.add (k + 1) = ⟨(a.add k).block, (a.add k).off + 1, none⟩ := by
  unfold Addr.add
  by_cases hk : k = 0
  · subst hk; simp
  · simp [hk]; omega
/-- The cells of a row of requests. -/
theorem rqs_cells {W : World} {ok : Nat → Prop} {a : Addr} {q : List MR} (h : Rqs W ok (some a) q) : ∃ css : List (List Value), css.length = q.length ∧ (∀ c ∈ css, c.length = 2) ∧ (∀ u ∈ css.flatten, u.oneCell' = true) ∧
    (∀ j u, css.flatten[j]? = some u → W.cell? (a.add j) = some u) ∧ ∀ (i : Nat) p, q[i]? = some p → ∃ cs, css[i]? = some cs ∧ RqAt W ok p cs := by
  have key : ∀ n, n ≤ q.length → ∃ css : List (List Value), css.length = n ∧ (∀ c ∈ css, c.length = 2) ∧ (∀ u ∈ css.flatten, u.oneCell' = true) ∧
      (∀ j u, css.flatten[j]? = some u → W.cell? (a.add j) = some u) ∧ ∀ (i : Nat) p, i < n → q[i]? = some p → ∃ cs, css[i]? = some cs ∧ RqAt W ok p cs := by
    intro n
    induction n with
    | zero => exact fun _ => ⟨[], rfl, by simp, by simp, by simp, fun i p h => by omega⟩
    | succ n ih =>
      intro hn
      obtain ⟨css, h1, h2, h3, h4, h5⟩ := ih (by omega)
      obtain ⟨p, hp⟩ : ∃ p, q[n]? = some p := ⟨_, List.getElem?_eq_getElem (by omega)⟩
      obtain ⟨a', c0, c1, e1, _, _, k0, k1, hr⟩ := h n p hp
      cases e1
      have hr' := hr
      obtain ⟨A1, cap1, hd, _, _⟩ := hr'
      obtain ⟨rfl, rfl⟩ : c0 = .slice A1 p.1.length cap1 ∧ c1 = .int .i64 p.2 := by simpa using hd
      have hfl : css.flatten.length = n * 2 := by
        have key2 : ∀ l : List (List Value), (∀ c ∈ l, c.length = 2) → l.flatten.length = l.length * 2 := by
          intro l
          induction l with
          | nil => intro _; rfl
          | cons c l ih =>
            intro hc
            rw [List.flatten_cons, List.length_append, ih (fun c h => hc c (by simp [h])), hc c (by simp), List.length_cons]
            omega
        rw [key2 css h2, h1]
      refine ⟨css ++ [[.slice A1 p.1.length cap1, .int .i64 p.2]], by simp [h1], ?_, ?_, ?_, ?_⟩
      · intro c hc
        rcases List.mem_append.1 hc with hc | hc
        · exact h2 c hc
        · rw [List.mem_singleton.1 hc]; rfl
      · intro u hu
        rw [List.flatten_append] at hu
        rcases List.mem_append.1 hu with hu | hu
        · exact h3 u hu
        · simp at hu
          rcases hu with rfl | rfl <;> rfl
      · intro j u hu
        rw [List.flatten_append] at hu
        by_cases hj : j < n * 2
        · rw [List.getElem?_append_left (by omega)] at hu
          exact h4 j u hu
        · rw [List.getElem?_append_right (by omega), hfl] at hu
          have hl : j - n * 2 < 2 := by simpa using (List.getElem?_eq_some_iff.1 hu).1
          rcases (show j - n * 2 = 0 ∨ j - n * 2 = 1 by omega) with hj2 | hj2
          · rw [hj2] at hu
            obtain rfl : Value.slice A1 p.1.length cap1 = u := by simpa using hu
            rw [show j = n * 2 by omega]; exact k0
          · rw [hj2] at hu
            obtain rfl : Value.int .i64 p.2 = u := by simpa using hu
            rw [show j = n * 2 + 1 by omega, add_next]; exact k1
      · intro i p' hi hp'
        by_cases hin : i < n
        · obtain ⟨cs, hc, hr2⟩ := h5 i p' hin hp'
          exact ⟨cs, by rw [List.getElem?_append_left (by omega)]; exact hc, hr2⟩
        · obtain rfl : i = n := by omega
          rw [hp] at hp'
          obtain rfl := Option.some.inj hp'
          exact ⟨_, by rw [List.getElem?_append_right (by omega), h1]; simp, hr⟩
  obtain ⟨css, h1, h2, h3, h4, h5⟩ := key q.length (Nat.le_refl _)
  exact ⟨css, h1, h2, h3, h4, fun i p hp => h5 i p (List.getElem?_eq_some_iff.1 hp).1 hp⟩
end Go.Proofs.YtjcicbkjngpcoaaGreatDoor
