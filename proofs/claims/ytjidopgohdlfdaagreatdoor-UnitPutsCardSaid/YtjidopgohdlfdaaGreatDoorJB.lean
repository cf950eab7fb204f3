/-
  Requests told apart by their bytes; what is held of them, whoever holds it (stage 5's, cut). No condition.
-/
import Derived.Test.YtjidopgohdlfdaaGreatDoorQA
import Derived.Test.YtjidopgohdlfdaaGreatDoorQM
import Derived.Laws.AppendOwnNone
import Derived.Test.YtjidopgohdlfdaaGreatDoorWalksT

namespace Go.Proofs.YtjidopgohdlfdaaGreatDoor
open Go.RowKit Dec Pq S4

theorem bytes_inj {a b : ByteArray} (h : a.data.toList = b.data.toList) : a = b := ByteArray.ext (Array.toList_inj.1 h)
theorem txt_inj {ss tt : List ByteArray} (h : txt ss = txt tt) : ss = tt := by
  induction ss generalizing tt with
  | nil => cases tt with
    | nil => rfl
    | cons b t => simp [txt] at h
  | cons a s ih => cases tt with
    | nil => simp [txt] at h
    | cons b t =>
      simp only [txt, List.map_cons, List.cons.injEq] at h
      rw [bytes_inj h.1, ih h.2]
theorem rq_inj {p q : MR} (h : rq p = rq q) : p = q := by
  obtain ⟨s, n⟩ := p
  obtain ⟨t, m⟩ := q
  simp only [rq, Prod.mk.injEq] at h
  rw [txt_inj h.1, h.2]
theorem rqs_inj {p q : List MR} (h : p.map rq = q.map rq) : p = q := by
  induction p generalizing q with
  | nil => cases q with
    | nil => rfl
    | cons b t => simp at h
  | cons a s ih => cases q with
    | nil => simp at h
    | cons b t =>
      simp only [List.map_cons, List.cons.injEq] at h
      rw [rq_inj h.1, ih h.2]
theorem mi_inj {x y : MI} (h : x.inp = y.inp) : x = y := by
  obtain ⟨a, b, c, d, e, f⟩ := x
  obtain ⟨a', b', c', d', e', f'⟩ := y
  simp only [MI.inp, Inp.mk.injEq] at h
  obtain ⟨h1, h2, rfl, rfl, rfl, rfl⟩ := h
  rw [bytes_inj h1, txt_inj h2]
abbrev Tr : Nat → Prop := fun _ => True
theorem SOk.free {W : World} {ok : Nat → Prop} {A : Option Addr} {ss : List ByteArray} (h : SOk W ok A ss) : SOk W Tr A ss := h.keep (fun _ _ _ => rfl) (Nat.le_refl _) (fun _ _ _ => trivial)
theorem drewN_trans {w w' : World} (h : ∃ m, w' = w.drewN m) (n : Nat) : ∃ m, w'.drewN n = w.drewN m := by
  obtain ⟨m, rfl⟩ := h
  exact ⟨m + n, World.drewN_drewN _ _ _⟩
end Go.Proofs.YtjidopgohdlfdaaGreatDoor

/-
  The walk of Feed of a dead Input; rows of requests one behind the other. Premises: where they are written.
-/
namespace Go.Proofs.YtjidopgohdlfdaaGreatDoor
open Go.RowKit Dec Pq S4

set_option maxRecDepth 100000 in
set_option maxHeartbeats 2000000 in
theorem feed_deadI (b : ByteArray) (la lb ll d : Int) (w : World) (hd : (d != 0) = true) :
    Calls Tryz.prog 44 #[.agg #[.string ⟨#[]⟩, .slice none 0 0, .int .i64 0, .int .i64 0, .bool false, .int .i64 0, .int .i64 d], .string b, .agg #[.int .i64 la, .int .i64 lb, .int .i64 ll]] w fun e w' =>
      e = .returned (.tuple #[.agg #[.string ⟨#[]⟩, .slice none 0 0, .int .i64 0, .int .i64 0, .bool false, .int .i64 0, .int .i64 d], .slice none 0 0, .int .i64 d]) ∧ Below w.heap.size w w' := by
  go_enter Tryz.func44, Tryz.ntmps44
  go_upto_region 3 with (go_at_call 56; ((with_reducible refine (row_nil _).mono ?_); rintro e w1 ⟨rfl, rfl⟩))
  go_region
  all_goals go_wp2_with fail
  all_goals (
    refine bodyPost_ret (v := .tuple #[.agg #[.string ⟨#[]⟩, .slice none 0 0, .int .i64 0, .int .i64 0, .bool false, .int .i64 0, .int .i64 d], .slice none 0 0, .int .i64 d]) (by simp [results, Tryz.results44, go_sem]) rfl ⟨rfl, ?_⟩
    exact Below.drew ((((Below.refl _ _).alloc (Nat.le_refl _) _).alloc (by simp) _).alloc (by simp; omega) _))
theorem add_next (a : Addr) (k : Nat) : a.add (k + 1) = ⟨(a.add k).block, (a.add k).off + 1, none⟩ := by
  unfold Addr.add
  by_cases hk : k = 0
  · subst hk; simp
  · simp [hk]; omega
/-- The cells of a row of requests. -/
theorem rqs_cells {W : World} {ok : Nat → Prop} {a : Addr} {q : List MR} (h : Rqs W ok (some a) q) : ∃ css : List (List Value), css.length = q.length ∧ (∀ c ∈ css, c.length = 2) ∧ (∀ u ∈ css.flatten, u.oneCell' = true) ∧
    (∀ j u, css.flatten[j]? = some u → W.cell? (a.add j) = some u) ∧ ∀ (i : Nat) p, q[i]? = some p → ∃ cs, css[i]? = some cs ∧ RqAt W ok p cs := by
  have key : ∀ n, n ≤ q.length → ∃ css : List (List Value), css.length = n ∧ (∀ c ∈ css, c.length = 2) ∧ (∀ u ∈ css.flatten, u.oneCell' = true) ∧
      (∀ j u, css.flatten[j]? = some u → W.cell? (a.add j) = some u) ∧ ∀ (i : Nat) p, i < n → q[i]? = some p → ∃ cs, css[i]? = some cs ∧ RqAt W ok p cs := by
    intro n
    induction n with
    | zero => exact fun _ => ⟨[], rfl, by simp, by simp, by simp, fun i p h => by omega⟩
    | succ n ih =>
      intro hn
      obtain ⟨css, h1, h2, h3, h4, h5⟩ := ih (by omega)
      obtain ⟨p, hp⟩ : ∃ p, q[n]? = some p := ⟨_, List.getElem?_eq_getElem (by omega)⟩
      obtain ⟨a', c0, c1, e1, _, _, k0, k1, hr⟩ := h n p hp
      cases e1
      have hr' := hr
      obtain ⟨A1, cap1, hd, _, _⟩ := hr'
      obtain ⟨rfl, rfl⟩ : c0 = .slice A1 p.1.length cap1 ∧ c1 = .int .i64 p.2 := by simpa using hd
      have hfl : css.flatten.length = n * 2 := by
        have key2 : ∀ l : List (List Value), (∀ c ∈ l, c.length = 2) → l.flatten.length = l.length * 2 := by
          intro l
          induction l with
          | nil => intro _; rfl
          | cons c l ih =>
            intro hc
            rw [List.flatten_cons, List.length_append, ih (fun c h => hc c (by simp [h])), hc c (by simp), List.length_cons]
            omega
        rw [key2 css h2, h1]
      refine ⟨css ++ [[.slice A1 p.1.length cap1, .int .i64 p.2]], by simp [h1], ?_, ?_, ?_, ?_⟩
      · intro c hc
        rcases List.mem_append.1 hc with hc | hc
        · exact h2 c hc
        · rw [List.mem_singleton.1 hc]; rfl
      · intro u hu
        rw [List.flatten_append] at hu
        rcases List.mem_append.1 hu with hu | hu
        · exact h3 u hu
        · simp at hu
          rcases hu with rfl | rfl <;> rfl
      · intro j u hu
        rw [List.flatten_append] at hu
        by_cases hj : j < n * 2
        · rw [List.getElem?_append_left (by omega)] at hu
          exact h4 j u hu
        · rw [List.getElem?_append_right (by omega), hfl] at hu
          have hl : j - n * 2 < 2 := by simpa using (List.getElem?_eq_some_iff.1 hu).1
          rcases (show j - n * 2 = 0 ∨ j - n * 2 = 1 by omega) with hj2 | hj2
          · rw [hj2] at hu
            obtain rfl : Value.slice A1 p.1.length cap1 = u := by simpa using hu
            rw [show j = n * 2 by omega]; exact k0
          · rw [hj2] at hu
            obtain rfl : Value.int .i64 p.2 = u := by simpa using hu
            rw [show j = n * 2 + 1 by omega, add_next]; exact k1
      · intro i p' hi hp'
        by_cases hin : i < n
        · obtain ⟨cs, hc, hr2⟩ := h5 i p' hin hp'
          exact ⟨cs, by rw [List.getElem?_append_left (by omega)]; exact hc, hr2⟩
        · obtain rfl : i = n := by omega
          rw [hp] at hp'
          obtain rfl := Option.some.inj hp'
          exact ⟨_, by rw [List.getElem?_append_right (by omega), h1]; simp, hr⟩
  obtain ⟨css, h1, h2, h3, h4, h5⟩ := key q.length (Nat.le_refl _)
  exact ⟨css, h1, h2, h3, h4, fun i p hp => h5 i p (List.getElem?_eq_some_iff.1 hp).1 hp⟩
end Go.Proofs.YtjidopgohdlfdaaGreatDoor

/-
  Rows of requests one behind the other, and how they are held. Premises: lengths are small.
-/
namespace Go.Proofs.YtjidopgohdlfdaaGreatDoor
open Go.RowKit Dec Pq S4

/-- Requests' cells, as they are appended. -/
def Cells (W : World) (ok : Nat → Prop) (q : List MR) (css : List (List Value)) : Prop := css.length = q.length ∧ (∀ c ∈ css, c.length = 2) ∧ ∀ (i : Nat) p, q[i]? = some p → ∃ cs, css[i]? = some cs ∧ RqAt W ok p cs
theorem flat_len (css : List (List Value)) (h : ∀ c ∈ css, c.length = 2) : css.flatten.length = css.length * 2 := by
  induction css with
  | nil => rfl
  | cons c l ih =>
    rw [List.flatten_cons, List.length_append, ih (fun c hc => h c (by simp [hc])), h c (by simp), List.length_cons]
    omega
theorem run_rqs {W : World} {B : Nat} {v : Value} {n : Nat} {xs : List Value} {A : Option Addr} {c : Nat} {q : List MR} {ok : Nat → Prop} (ty : TypeId) (hown : W.ownsRow B 69 2 v n xs) (hr : Rqs W ok A q) (hc : q = [] → A = none → c = 0) (hlen : n + q.length ≤ 1000000) (hB : B ≤ W.heap.size) :
    ∃ v' w' css, (Builtin.append_ #[63, 63] ty #[v, .slice A q.length c]).run Tryz.prog W = .ok v' w' ∧ w'.ownsRow B 69 2 v' (n + q.length) (xs ++ css.flatten) ∧ W.grownBy w' v.ownBlock ∧ (v'.ownBlock = v.ownBlock ∨ v'.ownBlock = some W.heap.size) ∧ Cells W ok q css := by
  obtain ⟨i0, hi, hz0, hz1, hz2⟩ := info_parts req_info
  cases A with
  | some ad =>
    obtain ⟨css, h1, h2, h3, h4, h5⟩ := rqs_cells hr
    obtain ⟨v', w', k1, k2, k3, _, k5⟩ := run_append_own_at (P := Tryz.prog) W B 63 ty 69 i0 _ 2 32 Tryz.underlying63 hi hz0 hz1 hz2 rfl (by decide) v n xs hown ad q.length c css.flatten (by rw [flat_len css h2, h1]) h4 h3 (by unfold maxLen; omega) (by omega) hB
    exact ⟨v', w', css, k1, k2, k3, k5, h1, h2, h5⟩
  | none =>
    have hs : q = [] := by
      cases q with
      | nil => rfl
      | cons p q =>
        obtain ⟨a, _, _, ha, _⟩ := hr 0 p rfl
        cases ha
    subst hs
    obtain rfl := hc rfl rfl
    exact ⟨v, W, [], run_append_owned_none (P := Tryz.prog) (w := W) B 63 ty 69 i0 2 Tryz.underlying63 hi v n xs hown, by simpa using hown, World.grownBy.refl _ _, Or.inl rfl, rfl, by simp, fun i p h => by simp at h⟩
theorem wp_rqs {W : World} {o : Oper} {a : Act} {K : Act → World → Prop} {Q : Exit → Act → World → Prop} (s x : Operand) (ho : o.op = .call { callee := .builtin .append, args := #[s, x], argTypes := #[63, 63] })
    {B : Nat} {v : Value} {n : Nat} {xs : List Value} {A : Option Addr} {c : Nat} {q : List MR} {ok : Nat → Prop} (hs : a.eval s = v) (hx : a.eval x = .slice A q.length c) (hown : W.ownsRow B 69 2 v n xs) (hr : Rqs W ok A q) (hc : q = [] → A = none → c = 0) (hlen : n + q.length ≤ 1000000) (hB : B ≤ W.heap.size)
    (h : ∀ v' w' css, w'.ownsRow B 69 2 v' (n + q.length) (xs ++ css.flatten) → W.grownBy w' v.ownBlock → (v'.ownBlock = v.ownBlock ∨ v'.ownBlock = some W.heap.size) → Cells W ok q css → K (a.put o.dst v') w') : o.wp Tryz.prog a W K Q := by
  obtain ⟨v', w', css, hrun, h2, h3, h4, h5⟩ := run_rqs o.type hown hr hc hlen hB
  unfold Oper.wp execOp
  simp only [ho, resolve, invoke, builtin, Sem.run_bind, Sem.run_pure, Result.andThen_ok, List.map_toArray, List.map_cons, List.map_nil, hs, hx, hrun]
  exact h v' w' css h2 h3 h4 h5
theorem wpList_rqs {W : World} {ops : Array Oper} {rest : List Oper} {o : Oper} {a : Act} {Q : Exit → Act → World → Prop} (hw : Region.wanted o (yielded ops a.tmps) = true) (s x : Operand) (ho : o.op = .call { callee := .builtin .append, args := #[s, x], argTypes := #[63, 63] })
    {B : Nat} {v : Value} {n : Nat} {xs : List Value} {A : Option Addr} {c : Nat} {q : List MR} {ok : Nat → Prop} (hs : a.eval s = v) (hx : a.eval x = .slice A q.length c) (hown : W.ownsRow B 69 2 v n xs) (hr : Rqs W ok A q) (hc : q = [] → A = none → c = 0) (hlen : n + q.length ≤ 1000000) (hB : B ≤ W.heap.size)
    (h : ∀ v' w' css, w'.ownsRow B 69 2 v' (n + q.length) (xs ++ css.flatten) → W.grownBy w' v.ownBlock → (v'.ownBlock = v.ownBlock ∨ v'.ownBlock = some W.heap.size) → Cells W ok q css → wpList Tryz.prog ops Q rest (a.put o.dst v') w') : wpList Tryz.prog ops Q (o :: rest) a W :=
  wpList_step fun K hK => by
    rw [if_pos hw]
    exact wp_rqs s x ho hs hx hown hr hc hlen hB fun v' w' css h1 h2 h3 h4 => hK _ _ (h v' w' css h1 h2 h3 h4)
/-- More whole requests. -/
theorem Held.more {w0 W W' : World} {g : Nat} {v v' : Value} {q q2 : List MR} {ok : Nat → Prop} {css css2 : List (List Value)} (h : Held w0 g (.slice none 0 0) v [] q W)
    (hcl : css.length = q.length) (hc2 : ∀ c ∈ css, c.length = 2) (hcs : ∀ (i : Nat) p, q[i]? = some p → ∃ cs, css[i]? = some cs ∧ RqAt W (Free w0.heap.size g (.slice none 0 0) v) p cs) (hv : ∀ b, v.ownBlock = some b → w0.heap.size ≤ b ∧ b < W.heap.size)
    (hok : ∀ b, ok b → b < W.heap.size → w0.heap.size ≤ b ∧ b ≠ g ∧ v.ownBlock ≠ some b) (hown : W'.ownsRow w0.heap.size 69 2 v' (q.length + q2.length) (css.flatten ++ css2.flatten)) (hg : W.grownBy W' v.ownBlock)
    (hat : v'.ownBlock = v.ownBlock ∨ v'.ownBlock = some W.heap.size) (hC : Cells W ok q2 css2) : Held w0 g (.slice none 0 0) v' [] (q ++ q2) W' := by
  obtain ⟨e1, e2, e3⟩ := hC
  have hfr : ∀ b, b < W.heap.size → w0.heap.size ≤ b ∧ b ≠ g ∧ v.ownBlock ≠ some b → Free w0.heap.size g (.slice none 0 0) v' b := fun b hl ⟨h1, h2, h3⟩ => ⟨h1, h2, by simp [Value.ownBlock], fun e => by
    rcases hat with h | h
    · exact h3 (by rw [← h]; exact e)
    · rw [h] at e; have := Option.some.inj e; omega⟩
  refine ⟨World.ownsRow_nil _ _ _ _, ⟨css ++ css2, by simpa using hown, by simp [hcl, e1], ?_, fun i p hp => ?_⟩, by simp [Value.ownBlock], ?_, by simp [Value.ownBlock], h.bel.grown hg h.bel.size (fun k hk => (hv k hk).1), Nat.lt_of_lt_of_le h.lt hg.size, h.ge⟩
  · intro c hc
    rcases List.mem_append.1 hc with hc | hc
    · exact hc2 c hc
    · exact e2 c hc
  · by_cases hi : i < q.length
    · rw [List.getElem?_append_left hi] at hp
      obtain ⟨cs, hc, hr⟩ := hcs i p hp
      exact ⟨cs, by rw [List.getElem?_append_left (by omega)]; exact hc, hr.keep (fun b hf hl => hg.block b hl (fun e => hf.2.2.2 e.symm)) hg.size (fun b hf hl => hfr b hl ⟨hf.1, hf.2.1, hf.2.2.2⟩)⟩
    · rw [List.getElem?_append_right (by omega)] at hp
      obtain ⟨cs, hc, hr⟩ := e3 _ p hp
      refine ⟨cs, by rw [List.getElem?_append_right (by omega), hcl]; exact hc, hr.keep (fun b hf hl => hg.block b hl (fun e => (hok b hf hl).2.2 e.symm)) hg.size (fun b hf hl => hfr b hl (hok b hf hl))⟩
  · intro e
    rcases hat with h1 | h1
    · exact h.gv (by rw [← h1]; exact e)
    · rw [h1] at e; have := Option.some.inj e; have := h.lt; omega
end Go.Proofs.YtjidopgohdlfdaaGreatDoor

/-
  The walks of the reference's limits and of what it puts. Premises: lengths are small.
-/
namespace Go.Proofs.YtjidopgohdlfdaaGreatDoor
open Go.RowKit Dec Pq S4

theorem rbetween_any (n hi : Int) (w : World) (hh : 1 ≤ hi) : Calls Tryz.prog 61 #[.int .i64 n, .int .i64 hi] w fun e w' => e = .returned (.int .i64 (betw n 1 hi)) ∧ w' = w := by
  have key : betw n 1 hi = if n < 1 then 1 else if hi < n then hi else n := by unfold betw; split <;> (try split) <;> omega
  by_cases h1 : n < 1
  · rw [key, if_pos h1]
    clear key
    go_enter Tryz.func61, Tryz.ntmps61
    go_wp2_with fail
    go_ret
    exact ⟨rfl, rfl⟩
  · by_cases h2 : hi < n
    · rw [key, if_neg h1, if_pos h2]
      clear key
      go_enter Tryz.func61, Tryz.ntmps61
      go_wp2_with fail
      go_ret
      exact ⟨rfl, rfl⟩
    · rw [key, if_neg h1, if_neg h2]
      clear key
      go_enter Tryz.func61, Tryz.ntmps61
      go_wp2_with fail
      go_ret
      exact ⟨rfl, rfl⟩
set_option maxRecDepth 100000 in
set_option maxHeartbeats 1000000 in
theorem rlimits_any (a b l : Int) (w : World) :
    Calls Tryz.prog 45 #[.agg #[.int .i64 a, .int .i64 b, .int .i64 l]] w fun e w' => e = .returned (.agg #[.int .i64 (betw a 1 65536), .int .i64 (betw b 1 1048576), .int .i64 (betw l 1 65536)]) ∧ Below w.heap.size w w' := by
  have hn1 := heap_alloc_new w (.cells #[.int .i64 a, .int .i64 b, .int .i64 l] 67)
  have hn2 := heap_alloc_new (w.alloc (.cells #[.int .i64 a, .int .i64 b, .int .i64 l] 67)) (.cells #[.int .i64 0, .int .i64 0, .int .i64 0] 67)
  have hn1' := (Lib.alloc_old (w.alloc (.cells #[.int .i64 a, .int .i64 b, .int .i64 l] 67)) (.cells #[.int .i64 0, .int .i64 0, .int .i64 0] 67) w.heap.size (by simp)).trans hn1
  have hb := (((Below.refl w.heap.size w).alloc (Nat.le_refl _) (.cells #[.int .i64 a, .int .i64 b, .int .i64 l] 67)).alloc (by simp) (.cells #[.int .i64 0, .int .i64 0, .int .i64 0] 67)).drew
  simp only [World.size_alloc] at hn2
  go_enter Tryz.func45, Tryz.ntmps45
  go_wp2_with fail
  generalize ((w.alloc (.cells #[.int .i64 a, .int .i64 b, .int .i64 l] 67)).alloc (.cells #[.int .i64 0, .int .i64 0, .int .i64 0] 67)) = W0 at hn1' hn2 hb ⊢
  refine wp_region_still_tail 10 (by kernel_rfl) (by kernel_rfl) ?_
  simp only [List.take_succ_cons, List.take_zero, List.drop_succ_cons, List.drop_zero]
  have c0 : W0.drew.cell? ⟨w.heap.size, 0, none⟩ = some (.int .i64 a) := Lib.cell_of_heap hn1' 0
  have c1 : W0.drew.cell? ⟨w.heap.size, 1, none⟩ = some (.int .i64 b) := Lib.cell_of_heap hn1' 1
  have c2 : W0.drew.cell? ⟨w.heap.size, 2, none⟩ = some (.int .i64 l) := Lib.cell_of_heap hn1' 2
  have hn3 : W0.drew.heap[w.heap.size + 1]? = some (.cells #[.int .i64 0, .int .i64 0, .int .i64 0] 67 (0, 0)) := hn2
  clear hn1' hn1 hn2
  change wpStill _ _ W0.drew (fun a' => wpList _ _ _ _ a' W0.drew) _ _
  generalize W0.drew = W1 at c0 c1 c2 hn3 hb ⊢
  still_step
  still_step
  still_call (rbetween_any _ _ _ (by decide))
  still_step
  still_step
  still_call (rbetween_any _ _ _ (by decide))
  still_step
  still_step
  still_call (rbetween_any _ _ _ (by decide))
  still_step
  refine wpStill_nil ?_
  have d0 := Lib.cell_of_heap hn3 0
  have d1 := Lib.cell_of_heap hn3 1
  have d2 := Lib.cell_of_heap hn3 2
  have f0 := Lib.frozen_of_heap hn3 0
  have f1 := Lib.frozen_of_heap hn3 1
  have f2 := Lib.frozen_of_heap hn3 2
  go_wp2_with fail
  have hl : (((W1.setCell ⟨w.heap.size + 1, 0, none⟩ (.int .i64 (betw a 1 65536))).setCell ⟨w.heap.size + 1, 1, none⟩ (.int .i64 (betw b 1 1048576))).setCell ⟨w.heap.size + 1, 2, none⟩ (.int .i64 (betw l 1 65536))).heap[w.heap.size + 1]? = some (.cells #[.int .i64 (betw a 1 65536), .int .i64 (betw b 1 1048576), .int .i64 (betw l 1 65536)] 67 (0, 0)) := by
    simp [World.setCell, Array.getElem?_modify, hn3]
  have hB := ((hb.setCell (p := ⟨w.heap.size + 1, 0, none⟩) (by simp) (.int .i64 (betw a 1 65536))).setCell (p := ⟨w.heap.size + 1, 1, none⟩) (by simp) (.int .i64 (betw b 1 1048576))).setCell (p := ⟨w.heap.size + 1, 2, none⟩) (by simp) (.int .i64 (betw l 1 65536))
  generalize (((W1.setCell ⟨w.heap.size + 1, 0, none⟩ (.int .i64 (betw a 1 65536))).setCell ⟨w.heap.size + 1, 1, none⟩ (.int .i64 (betw b 1 1048576))).setCell ⟨w.heap.size + 1, 2, none⟩ (.int .i64 (betw l 1 65536))) = w9 at hl hB ⊢
  have e0 : w9.cell? ⟨w.heap.size + 1, 0, none⟩ = some (.int .i64 (betw a 1 65536)) := Lib.cell_of_heap hl 0
  have e1 : w9.cell? ⟨w.heap.size + 1, 1, none⟩ = some (.int .i64 (betw b 1 1048576)) := Lib.cell_of_heap hl 1
  have e2 : w9.cell? ⟨w.heap.size + 1, 2, none⟩ = some (.int .i64 (betw l 1 65536)) := Lib.cell_of_heap hl 2
  refine bodyPost_ret (v := .agg #[.int .i64 (betw a 1 65536), .int .i64 (betw b 1 1048576), .int .i64 (betw l 1 65536)]) (by simp [results, Tryz.results45, go_sem, e0, e1, e2]) rfl ⟨rfl, hB⟩
theorem dec_nat (n : Nat) : (dec (n : Int)).data.toList = Lib.decDigits n := by rw [dec_data, itoa_nat]
theorem dec_nat_size (n : Nat) (h : n ≤ 9223372036854775807) : (dec (n : Int)).size ≤ 20 := by
  have e : (dec (n : Int)).data.toList.length = (dec (n : Int)).size := size_len _
  rw [← e, dec_nat, Lib.decDigits_length]
  exact Lib.nDigits_le20 n (by omega)
set_option maxHeartbeats 1000000 in
theorem rtextq_any (u : Nat) (w : World) (h1 : u ≤ 9223372036854775807) :
    Calls Tryz.prog 54 #[.int .i64 u] w fun e w' => e = .returned (.string (dec u)) ∧ ∃ m, w' = w.drewN m := by
  have hl : (Lib.decDigits u).length ≤ 20 := by rw [Lib.decDigits_length]; exact Lib.nDigits_le20 u (by omega)
  go_enter Tryz.func54, Tryz.ntmps54
  go_wp2_with (go_at_call 70; refine (rdigits_any u u _ (Nat.le_refl _) (by omega)).mono ?_; rintro e w' ⟨rfl, k, rfl⟩)
  go_ret
  exact ⟨ret_str (bytes_eq (by rw [dec_nat])), _, rfl⟩
/-- What is put of the first so many. -/
def putB (ss : List ByteArray) (k : Nat) : List UInt8 := 42 :: (Lib.decDigits ss.length ++ 13 :: 10 :: (txt (ss.take k)).flatMap putA)
theorem putB_all (ss : List ByteArray) : putB ss ss.length = putF (txt ss) := by
  unfold putB putF
  rw [List.take_length]
  simp [txt]
theorem putB_next {ss : List ByteArray} {k : Nat} {x : ByteArray} (h : ss[k]? = some x) : putB ss (k + 1) = putB ss k ++ putA x.data.toList := by
  unfold putB
  rw [List.take_add_one, h]
  simp [txt, List.flatMap_append]
def sz (ss : List ByteArray) : Nat := (ss.map (·.size)).sum
theorem sz_next {ss : List ByteArray} {k : Nat} {x : ByteArray} (h : ss[k]? = some x) : sz (ss.take (k + 1)) = sz (ss.take k) + x.size := by
  unfold sz
  rw [List.take_add_one, h]
  simp
theorem sz_take (ss : List ByteArray) (k : Nat) : sz (ss.take k) ≤ sz ss := by
  unfold sz
  rw [List.map_take]
  conv => rhs; rw [← List.take_append_drop k (ss.map (·.size))]
  rw [List.sum_append]
  omega
set_option maxRecDepth 100000 in
set_option maxHeartbeats 4000000 in
theorem rputq (A : Option Addr) (c : Nat) (ss : List ByteArray) (w : World) (hr : SOk w Tr A ss) (hn : ss.length ≤ 1000000) (hs : sz ss ≤ 137438953472) :
    Calls Tryz.prog 41 #[.slice A ss.length c] w fun e w' => e = .returned (.string ⟨(putF (txt ss)).toArray⟩) ∧ ∃ m, w' = w.drewN m := by
  have hrH := Lib.hid hr
  clear hr
  have hd0 := dec_nat_size ss.length (by omega)
  have hT0 := Lib.hid (rtextq_any ss.length)
  go_enter Tryz.func41, Tryz.ntmps41
  go_wp2_with (go_at_call 54; ((with_reducible refine (hT0.out _ (by omega)).mono ?_); rintro e w1 ⟨rfl, hw1⟩))
  have hwH := Lib.hid hw1
  have hb0 : Hid ((⟨#[42]⟩ ++ dec (ss.length : Int) ++ ⟨#[13, 10]⟩ : ByteArray).data.toList = putB ss 0) := Lib.hid (by
    rw [append_data, append_data, dec_nat]
    simp [putB, txt])
  have hz0 : (⟨#[42]⟩ ++ dec (ss.length : Int) ++ ⟨#[13, 10]⟩ : ByteArray).size ≤ 30 + 30 * 0 + sz (ss.take 0) := by
    rw [ByteArray.size_append, ByteArray.size_append]
    show 1 + _ + 2 ≤ _
    omega
  clear hw1
  generalize (⟨#[42]⟩ ++ dec (ss.length : Int) ++ ⟨#[13, 10]⟩ : ByteArray) = s0 at hb0 hz0 ⊢
  go_loopw [3, 4] (fun s i wr => ∃ (k : Nat) (b : ByteArray), i = .int .i64 k ∧ k ≤ ss.length ∧ s = .string b ∧ Hid (b.data.toList = putB ss k) ∧ b.size ≤ 30 + 30 * k + sz (ss.take k) ∧ Hid (∃ m, wr = w.drewN m)) (fun _ i _ => ss.length - (intOf i).toNat)
  case atStart => exact ⟨0, s0, rfl, by omega, rfl, hb0, hz0, hwH⟩
  case round =>
    clear hb0 hz0 hwH
    obtain ⟨k, b, rfl, hk, rfl, hb, hz, hW⟩ := hrel
    have hle := sz_take ss k
    by_cases hlt : k < ss.length
    · obtain ⟨x, hx⟩ : ∃ x, ss[k]? = some x := ⟨_, List.getElem?_eq_getElem hlt⟩
      obtain ⟨a, rfl, _, _, hc⟩ := hrH.out k x hx
      have hsn := sz_next hx
      have hle2 := sz_take ss (k + 1)
      have hnx := Lib.hid (putB_next hx)
      obtain ⟨m, hm⟩ := hW.out
      have hcw : wr.cell? (a.add k) = some (.string x) := by rw [hm]; exact hc
      have hT := Lib.hid (fun n => rtextq_any x.size (wr.drewN n) (by omega))
      have hdx := dec_nat_size x.size (by omega)
      clear hc hx hm
      go_wp2_with fail
      go_quiet ((go_at_call 54; exact Calls.quiet_of (hT.out _)))
      go_wp2_with fail
      have hbn : Hid ((b ++ (⟨#[36]⟩ ++ dec (x.size : Int) ++ ⟨#[13, 10]⟩ ++ x ++ ⟨#[13, 10]⟩) : ByteArray).data.toList = putB ss (k + 1)) := Lib.hid (by
        rw [hnx.out, append_data, hb.out]
        simp only [append_data, dec_nat, putA, size_len]
        simp)
      have hbz : (b ++ (⟨#[36]⟩ ++ dec (x.size : Int) ++ ⟨#[13, 10]⟩ ++ x ++ ⟨#[13, 10]⟩) : ByteArray).size ≤ 30 + 30 * (k + 1) + sz (ss.take (k + 1)) := by
        simp only [ByteArray.size_append]
        show b.size + (1 + _ + 2 + _ + 2) ≤ _
        omega
      go_roundw
      case rel => exact ⟨k + 1, _, by go_num, by omega, rfl, hbn, hbz, Lib.hid (drewN_trans hW.out _)⟩
      case measure => simp [intOf]; omega
    · go_wp2_with fail
      go_ret
      refine ⟨ret_str (bytes_eq ?_), hW.out⟩
      rw [hb.out, show k = ss.length by omega, putB_all]
end Go.Proofs.YtjidopgohdlfdaaGreatDoor

/-
  The walk of what a request's bytes are written with. Premises: what is written takes at most 2^40 bytes; the library's table of powers of ten holds what its initialiser lays.
-/
namespace Go.Proofs.YtjidopgohdlfdaaGreatDoor
open Go.RowKit Dec Pq S4

theorem Bd.below {b B : Nat} {bs : List Value} {W W' : World} (h : Lib.IsBuilderF 74 5 B b bs W) (hb : Below W.heap.size W W') : Lib.IsBuilderF 74 5 B b bs W' := by
  have key : ∀ p, Lib.BuilderAtF 74 5 B b p bs W → Lib.BuilderAtF 74 5 B b p bs W' := by
    rintro p ⟨hB, v, hbk, hown, hne⟩
    have hlt : b < W.heap.size := (Array.getElem?_eq_some_iff.1 hbk).1
    refine ⟨hB, v, (hb.block b hlt).trans hbk, ⟨hown.1, ?_⟩, hne⟩
    rcases hown.2 with hn | ⟨g, cap, cur, fz, hv, hbg, hg, rest⟩
    · exact Or.inl hn
    · exact Or.inr ⟨g, cap, cur, fz, hv, hbg, (hb.block g (Array.getElem?_eq_some_iff.1 hg).1).trans hg, rest⟩
  exact h.elim (fun x => Or.inl (key _ x)) (fun x => Or.inr (key _ x))
/-- A builder under way: what it has, and that nothing older has changed. -/
structure BS (w0 : World) (b : Nat) (l : List UInt8) (W : World) : Prop where
  bd : Lib.IsBuilderF 74 5 w0.heap.size b (Lib.byteCells l) W
  bel : Below w0.heap.size w0 W
section
variable {w0 W W' : World} {b : Nat} {l : List UInt8}
theorem BS.on (h : BS w0 b l W) (hb : Below W.heap.size W W') : BS w0 b l W' := ⟨Bd.below h.bd hb, h.bel.trans (hb.mono h.bel.size)⟩
theorem bs_byte (h : BS w0 b l W) (c : Int) (u : UInt8) (hc : (u.toNat : Int) = c) (hlen : l.length + 1 ≤ 1099511627776) : Calls Tryz.prog 67 #[.pointer (some ⟨b, 0, none⟩), .int .u8 c] W fun e w' => e = .returned .nilIface ∧ BS w0 b (l ++ [u]) w' := by
  subst hc
  refine (wbyte_any w0.heap.size b _ (u.toNat : Int) W h.bd (by rw [Lib.byteCells_length]; omega) h.bel.size).mono ?_
  rintro e w' ⟨h1, h2, h3⟩
  refine ⟨h1, ?_, h.bel.trans h3.1⟩
  rw [byteCells_append]
  exact h2
theorem bs_string (h : BS w0 b l W) (s : ByteArray) (hlen : l.length + s.size ≤ 1099511627776) : Calls Tryz.prog 37 #[.pointer (some ⟨b, 0, none⟩), .string s] W fun e w' => e = .returned (.tuple #[.int .i64 s.size, .nilIface]) ∧ BS w0 b (l ++ s.data.toList) w' := by
  refine (wstring_any w0.heap.size b _ s W h.bd (by rw [Lib.byteCells_length]; omega) h.bel.size).mono ?_
  rintro e w' ⟨h1, h2, h3⟩
  refine ⟨h1, ?_, h.bel.trans h3.1⟩
  rw [byteCells_append, ← strCells_bytes]
  exact h2
theorem bs_text (h : BS w0 b l W) (hT : Hid (Tab w0)) (n : Nat) (hn : n ≤ 1099511627776) : Calls Tryz.prog 68 #[.int .i64 n] W fun e w' => e = .returned (.string (dec n)) ∧ BS w0 b l w' :=
  (text_any n W (by omega) (by omega) (Lib.hid (hT.out.on h.bel))).mono fun e w' ⟨h1, h2⟩ => ⟨h1, h.on h2⟩
/-- What a head has. -/
def headB (u : UInt8) (n : Nat) : List UInt8 := u :: (Lib.decDigits n ++ [13, 10])
set_option maxHeartbeats 2000000 in
theorem phead_any (h : BS w0 b l W) (hT : Hid (Tab w0)) (c : Int) (u : UInt8) (hc : (u.toNat : Int) = c) (n : Nat) (hn : n ≤ 1099511627) (hlen : l.length + 40 ≤ 1099511627776) :
    Calls Tryz.prog 52 #[.pointer (some ⟨b, 0, none⟩), .int .u8 c, .int .i64 n] W fun e w' => e = .returned (.tuple #[]) ∧ BS w0 b (l ++ headB u n) w' := by
  have hds := dec_nat_size n (by omega)
  have e1 : l ++ headB u n = l ++ [u] ++ (dec (n : Int)).data.toList ++ (⟨#[13, 10]⟩ : ByteArray).data.toList := by rw [dec_nat]; simp [headB]
  rw [e1]
  have hs1 : (l ++ [u]).length = l.length + 1 := by simp
  have hs2 : (l ++ [u] ++ (dec (n : Int)).data.toList).length = l.length + 1 + (dec (n : Int)).size := by rw [List.length_append, hs1, size_len]
  have c1 := Lib.hid (bs_byte h c u hc (by omega))
  have c2 : Hid (∀ W, BS w0 b (l ++ [u]) W → Calls Tryz.prog 68 #[.int .i64 n] W fun e w' => e = .returned (.string (dec n)) ∧ BS w0 b (l ++ [u]) w') := Lib.hid fun W hB => bs_text hB hT n (by omega)
  have c3 : Hid (∀ W, BS w0 b (l ++ [u]) W → Calls Tryz.prog 37 #[.pointer (some ⟨b, 0, none⟩), .string (dec n)] W fun e w' => e = .returned (.tuple #[.int .i64 (dec (n : Int)).size, .nilIface]) ∧ BS w0 b (l ++ [u] ++ (dec (n : Int)).data.toList) w') := Lib.hid fun W hB => bs_string hB _ (by omega)
  have c4 : Hid (∀ W, BS w0 b (l ++ [u] ++ (dec (n : Int)).data.toList) W → Calls Tryz.prog 37 #[.pointer (some ⟨b, 0, none⟩), .string ⟨#[13, 10]⟩] W fun e w' => e = .returned (.tuple #[.int .i64 2, .nilIface]) ∧ BS w0 b (l ++ [u] ++ (dec (n : Int)).data.toList ++ (⟨#[13, 10]⟩ : ByteArray).data.toList) w') := Lib.hid fun W hB => bs_string hB ⟨#[13, 10]⟩ (by rw [hs2]; show _ + 2 ≤ _; omega)
  clear e1 hs1 hs2 hds h hc hlen
  generalize l ++ [u] ++ (dec (n : Int)).data.toList ++ (⟨#[13, 10]⟩ : ByteArray).data.toList = l3 at c4 ⊢
  generalize l ++ [u] ++ (dec (n : Int)).data.toList = l2 at c3 c4
  generalize l ++ [u] = l1 at c1 c2 c3
  go_enter Tryz.func52, Tryz.ntmps52
  go_wp2_with (first
    | (go_at_call 67; ((with_reducible refine c1.out.mono ?_); rintro e w1 ⟨rfl, h1⟩))
    | (go_at_call 68; ((with_reducible refine (c2.out _ h1).mono ?_); rintro e w2 ⟨rfl, h2⟩))
    | (go_at_call 37; ((with_reducible refine (c4.out _ h3).mono ?_); rintro e w4 ⟨rfl, h4⟩))
    | (go_at_call 37; ((with_reducible refine (c3.out _ h2).mono ?_); rintro e w3 ⟨rfl, h3⟩)))
  go_end0
  exact ⟨rfl, h4⟩
end

/-- What is written of the first so many arguments. -/
theorem putB_step {ss : List ByteArray} {k : Nat} {x : ByteArray} (h : ss[k]? = some x) : putB ss (k + 1) = putB ss k ++ headB 36 x.size ++ x.data.toList ++ (⟨#[13, 10]⟩ : ByteArray).data.toList := by
  rw [putB_next h]
  simp [headB, putA]
theorem putB_zero (ss : List ByteArray) : putB ss 0 = [] ++ headB 42 ss.length := by simp [putB, headB, txt]
theorem putB_len {ss : List ByteArray} {k : Nat} (hk : k ≤ ss.length) (hn : ss.length ≤ 1000000) (hsz : sz ss ≤ 137438953472) : (putB ss k).length ≤ 30 + 30 * k + sz (ss.take k) := by
  induction k with
  | zero =>
    have := dec_nat_size ss.length (by omega)
    have e : (dec (ss.length : Int)).data.toList.length = (dec (ss.length : Int)).size := size_len _
    rw [dec_nat] at e
    rw [putB_zero]
    simp [headB]
    omega
  | succ k ih =>
    obtain ⟨x, hx⟩ : ∃ x, ss[k]? = some x := ⟨_, List.getElem?_eq_getElem (by omega)⟩
    have hi := ih (by omega)
    have hs := sz_next hx
    rw [putB_step hx]
    have hle := sz_take ss (k + 1)
    have := dec_nat_size x.size (by omega)
    have e : (dec (x.size : Int)).data.toList.length = (dec (x.size : Int)).size := size_len _
    rw [dec_nat] at e
    simp only [List.length_append, headB, List.length_cons, size_len, List.length_nil]
    show _ + (_ + (0 + 1 + 1) + 1) + _ + 2 ≤ _
    omega

set_option maxRecDepth 100000 in
set_option maxHeartbeats 4000000 in
theorem put_any (A : Option Addr) (c : Nat) (ss : List ByteArray) (w : World) (hT : Tab w) (hr : SOk w Tr A ss) (hn : ss.length ≤ 1000000) (hs : sz ss ≤ 137438953472) (hb : ∀ x ∈ ss, x.size ≤ 1048576) :
    Calls Tryz.prog 38 #[.slice A ss.length c] w fun e w' => e = .returned (.string ⟨(putF (txt ss)).toArray⟩) ∧ Below w.heap.size w w' := by
  have hrH := Lib.hid hr
  have hTH := Lib.hid hT
  have hbH := Lib.hid hb
  have hB0 : BS w w.heap.size [] (w.alloc (.cells #[.pointer none, .slice none 0 0] 74)) := ⟨Lib.IsBuilderF.of (Lib.fresh_isBuilder 74 5 w), (Below.refl _ _).alloc (Nat.le_refl _) _⟩
  have c0 := Lib.hid (phead_any hB0 hTH 42 42 rfl ss.length (by omega) (by simp))
  rw [← putB_zero] at c0
  clear hr hT hB0 hb
  go_enter Tryz.func38, Tryz.ntmps38
  go_wp2_with (go_at_call 52; ((with_reducible refine c0.out.mono ?_); rintro e w1 ⟨rfl, h1⟩))
  have h1H := Lib.hid h1
  clear h1 c0
  go_loopw [11] (fun i wr => ∃ k : Nat, i = .int .i64 k ∧ k ≤ ss.length ∧ Hid (BS w w.heap.size (putB ss k) wr)) (fun i _ => ss.length - (intOf i).toNat)
  case atStart => exact ⟨0, rfl, by omega, h1H⟩
  case round =>
    clear h1H
    obtain ⟨k, rfl, hk, hB⟩ := hrel
    by_cases hlt : k < ss.length
    · obtain ⟨x, hx⟩ : ∃ x, ss[k]? = some x := ⟨_, List.getElem?_eq_getElem hlt⟩
      obtain ⟨a, rfl, _, hal, hc⟩ := hrH.out k x hx
      have hcw : wr.cell? (a.add k) = some (.string x) := (hB.out.bel.cell (p := a.add k) (by rw [block_of_add]; exact hal)).trans hc
      have hxb := hbH.out x (List.mem_of_getElem? hx)
      have hl := putB_len hk (by omega) hs
      have hle := sz_take ss k
      have hle2 := sz_take ss (k + 1)
      have hsn := sz_next hx
      have hnx := Lib.hid (putB_step hx)
      have q1 := Lib.hid (phead_any hB.out hTH 36 36 rfl x.size (by omega) (by omega))
      have q2 : Hid (∀ W, BS w w.heap.size (putB ss k ++ headB 36 x.size) W → Calls Tryz.prog 37 #[.pointer (some ⟨w.heap.size, 0, none⟩), .string x] W fun e w' => e = .returned (.tuple #[.int .i64 x.size, .nilIface]) ∧ BS w w.heap.size (putB ss k ++ headB 36 x.size ++ x.data.toList) w') := Lib.hid fun W h => bs_string h x (by
        have := dec_nat_size x.size (by omega)
        have e : (dec (x.size : Int)).data.toList.length = (dec (x.size : Int)).size := size_len _
        rw [dec_nat] at e
        simp [headB]; omega)
      have q3 : Hid (∀ W, BS w w.heap.size (putB ss k ++ headB 36 x.size ++ x.data.toList) W → Calls Tryz.prog 37 #[.pointer (some ⟨w.heap.size, 0, none⟩), .string ⟨#[13, 10]⟩] W fun e w' => e = .returned (.tuple #[.int .i64 2, .nilIface]) ∧ BS w w.heap.size (putB ss (k + 1)) w') := Lib.hid fun W h => by
        rw [hnx.out]
        exact bs_string h ⟨#[13, 10]⟩ (by
          have := dec_nat_size x.size (by omega)
          have e : (dec (x.size : Int)).data.toList.length = (dec (x.size : Int)).size := size_len _
          rw [dec_nat] at e
          simp only [List.length_append, headB, List.length_cons, size_len, List.length_nil]
          show _ + 2 ≤ _
          omega)
      clear hc hx hl hnx hal
      generalize putB ss k ++ headB 36 x.size ++ x.data.toList = m2 at q2 q3
      generalize putB ss k ++ headB 36 x.size = m1 at q1 q2
      go_wp2_with (first
        | (go_at_call 52; ((with_reducible refine q1.out.mono ?_); rintro e w2 ⟨rfl, h2⟩))
        | (go_at_call 37; ((with_reducible refine (q3.out _ h3).mono ?_); rintro e w4 ⟨rfl, h4⟩))
        | (go_at_call 37; ((with_reducible refine (q2.out _ h2).mono ?_); rintro e w3 ⟨rfl, h3⟩)))
      go_roundw
      case rel => exact ⟨k + 1, by go_num, by omega, Lib.hid h4⟩
      case measure => simp [intOf]; omega
    · have hke : k = ss.length := by omega
      have hB2 : BS w w.heap.size (putF (txt ss)) wr := by
        have := hB.out
        rw [hke, putB_all] at this
        exact this
      have hBH := Lib.hid hB2
      clear hB hB2 hke
      go_wp2_with (go_at_call 39; ((with_reducible refine (Tryz.Builder_String_any_f _ _ _ _ hBH.out.bd hBH.out.bel.size).mono ?_); rintro e w3 ⟨rfl, hB3, hb3⟩))
      go_ret
      exact ⟨rfl, hBH.out.bel.trans hb3⟩
end Go.Proofs.YtjidopgohdlfdaaGreatDoor
