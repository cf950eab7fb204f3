/-
  The walks of package hash's Walk: a row of all cursors, one behind the other, made anew; and of the statements' own 'alive'. The table of factors holds what the program's text lays.
-/
import Derived.Test.YtinolmaamccjbaaDoorWalksB
import Derived.OwnWalk
namespace Go.Proofs.YtinolmaamccjbaaDoor
open Go.RowKit

/-- The cursors of a walk, as many as n. -/
def revs (K n : Nat) : List Value := (List.range n).map fun t => .int .u64 ((rev K t : Nat) : Int)
theorem revs_len (K n : Nat) : (revs K n).length = n := by simp [revs]
theorem revs_succ (K n : Nat) : revs K (n + 1) = revs K n ++ [.int .u64 ((rev K n : Nat) : Int)] := by unfold revs; rw [List.range_succ, List.map_append]; rfl
theorem revs_one (K : Nat) : revs K 1 = [.int .u64 0] := by
  show [Value.int .u64 ((rev K 0 : Nat) : Int)] = _
  rw [rev_zero]; rfl
theorem revs_at (K n j : Nat) (h : j < n) : (revs K n)[j]? = some (.int .u64 ((rev K j : Nat) : Int)) := by simp [revs, h]
def lenV : Value → Nat
  | .slice _ n _ => n
  | _ => 0
theorem made_one (n : Nat) (h : 1 ≤ n) : (madeCells (Value.int .u64 0).cells (n * 1)).toList.take (1 * 1) = [.int .u64 0] := by
  obtain ⟨m, rfl⟩ : ∃ m, n = m + 1 := ⟨n - 1, by omega⟩
  simp only [madeCells, Array.toList_map, Array.toList_range, Nat.mul_one]
  rw [List.range_succ_eq_map]
  rfl

/-- 'make([]T, 1, n)', n a variable: one zero element is owned, there is room for n. -/
theorem wpList_make_one {P : Program} (w : World) {ops : Array Oper} {rest : List Oper} {o : Oper} {a : Act} {Q : Exit → Act → World → Prop}
    (hg : o.guard = none) (l c : Operand) (t : TypeId) (hop : o.op = Op.makeSlice t l c)
    (base : Nat) (e : TypeId) (i : TypeInfo) (h1 : P.underlying t = some (.slice e)) (h2 : P.info? e = some i) (h3 : i.zero = some (.int .u64 0)) (h4 : i.size = 1)
    (kl kc : IntKind) (L C : Int) (n : Nat) (hl : a.eval l = .int kl L) (hc : a.eval c = .int kc C) (hL : L = 1) (hC : C = (n : Int)) (hn : 1 ≤ n) (b2 : i.bytes * n ≤ 281474976710656) (b3 : n ≤ maxLen) (b4 : base ≤ w.heap.size)
    (hK : ∀ w', w'.ownsRow base e 1 (.slice (some ⟨w.heap.size, 0, none⟩) 1 n) 1 [.int .u64 0] → w.grownBy w' none → wpList P ops Q rest (a.put o.dst (.slice (some ⟨w.heap.size, 0, none⟩) 1 n)) w') :
    wpList P ops Q (o :: rest) a w := by
  refine wpList_plain hg fun K hK' => ?_
  have h63' : (n : Int) ≤ 9223372036854775807 := by
    have h := b3
    simp [maxLen] at h
    omega
  have hb' : (i.bytes : Int) * (n : Int) ≤ 281474976710656 := by
    have h : ((i.bytes * n : Nat) : Int) ≤ 281474976710656 := by omega
    rwa [Int.natCast_mul] at h
  have hrun := run_make (P := P) w t e i (.int .u64 0) h1 h2 h3 kl kc 1 n (by omega) (by omega) hb' h63'
  rw [h4] at hrun
  simp only [Int.toNat_natCast, Int.toNat_one] at hrun
  subst hL
  subst hC
  unfold Oper.wp
  simp [execOp, hop, hl, hc, hrun, Result.andThen]
  refine hK' _ _ (hK _ ?_ (World.grownBy_alloc w _ none))
  exact ⟨rfl, .inr ⟨w.heap.size, n, _, rfl, b4, heap_alloc_new w _, hn, b3, by rw [size_madeCells]; omega, by have := made_one n hn; simpa using this⟩⟩

theorem info_u64 : (Tryd.prog.info? 22).map (fun i => (i.zero, i.size, i.bytes)) = some (some (.int .u64 0), 1, 8) := by kernel_rfl

/-- What 'Walk' answers: a row of its own, all cursors. -/
def Walked (K : Nat) (w : World) (e : Ending) (w' : World) : Prop :=
  ∃ g, e = .returned (.slice (some ⟨g, 0, none⟩) (pw K) (pw K)) ∧ w.heap.size ≤ g ∧ g < w'.heap.size ∧ (∀ j, j < pw K → w'.cell? ⟨g, j, none⟩ = some (.int .u64 ((rev K j : Nat) : Int))) ∧ Below w.heap.size w w'

theorem wrap64_two (k : Nat) (h : k ≤ 16) : wrap64 ((2 : Int) ^ k) = ((pw k : Nat) : Int) := by
  have := pw_le h
  rw [show ((2 : Int) ^ k) = ((pw k : Nat) : Int) by unfold pw; simp]
  exact IntWalk.wrap64_in _ (by omega)

set_option maxHeartbeats 1000000 in
theorem walk_any (b : Int) (w : World) : Calls Tryd.prog 17 #[.int .i64 b] w (Walked (szN b) w) := by
  obtain ⟨i0, hi, hz0, hz1, hz2⟩ := info_parts info_u64
  have hk := szN_le b
  have hc : ∀ w, Calls Tryd.prog 19 #[.int .i64 b] w fun e w' => e = .returned (.int .i64 (szN b : Nat)) ∧ w = w' := fun w => size_any b w
  have hx : ∀ (n : Nat) w, n < 18446744073709551616 → Calls Tryd.prog 14 #[.int .u64 n, .int .i64 b] w fun e w' => e = .returned (.int .u64 ((nxt (szN b) n : Nat) : Int)) ∧ w = w' := fun n w hn => next_any n b hn w
  generalize szN b = K at *
  have he := wrap64_two K hk
  have hp := pw_pos K
  have hpl := pw_le hk
  have h0 : ∀ w, Calls Tryd.prog 14 #[.int .u64 0, .int .i64 b] w fun e w' => e = .returned (.int .u64 ((rev K 1 : Nat) : Int)) ∧ w = w' := by
    intro w
    have := hx 0 w (by omega)
    have e1 : nxt K 0 = rev K 1 := by
      have := nxt_rev K 0 hp
      rw [rev_zero] at this; exact this
    rw [e1] at this
    exact this
  go_enter Tryd.func17, Tryd.ntmps17
  go_wp2_with (first
    | (go_at_call 19; ((with_reducible refine (hc _).mono ?_); rintro e w' ⟨rfl, rfl⟩))
    | (at_make; refine wpList_make_one _ rfl _ _ 30 rfl w.heap.size 22 i0 Tryd.underlying30 hi hz0 hz1 _ _ _ _ (pw K) rfl rfl rfl he hp ?b2 ?b3 (Nat.le_refl _) ?_))
  case b2 => rw [hz2]; omega
  case b3 => unfold maxLen; omega
  intro w1 hown1 hgrow1
  go_wp2_with (go_at_call 14; ((with_reducible refine (h0 _).mono ?_); rintro e w' ⟨rfl, rfl⟩))
  go_loopw [3, 4] (fun v c wr => ∃ n : Nat, 1 ≤ n ∧ n ≤ pw K ∧ v = .slice (some ⟨w.heap.size, 0, none⟩) n (pw K) ∧ c = .int .u64 ((rev K n : Nat) : Int) ∧ wr.ownsRow w.heap.size 22 1 (.slice (some ⟨w.heap.size, 0, none⟩) n (pw K)) n (revs K n) ∧ Below w.heap.size w wr) (fun v _ _ => pw K - lenV v)
  case atStart => exact ⟨1, Nat.le_refl _, hp, rfl, rfl, by rw [revs_one]; exact hown1, (Below.refl _ _).grown hgrow1 (Nat.le_refl _) (fun k h => by cases h)⟩
  case round =>
    obtain ⟨n, hn1, hnP, rfl, rfl, hown, hb⟩ := hrel
    by_cases hlt : n < pw K
    · have hne : (((rev K n : Nat) : Int) != 0) = true := by
        have := rev_ne K n (by omega) hlt
        simp; omega
      have hnx : ∀ w, Calls Tryd.prog 14 #[.int .u64 ((rev K n : Nat) : Int), .int .i64 b] w fun e w' => e = .returned (.int .u64 ((rev K (n + 1) : Nat) : Int)) ∧ w = w' := by
        intro w
        have h := hx (rev K n) w (by have := rev_pw K n; omega)
        rw [nxt_rev K n hlt] at h
        exact h
      have hRH := Lib.hid (revs_succ K n)
      clear hx h0
      have hM := Lib.hid (Eq.refl (rev K (n + 1)))
      generalize hMe : rev K (n + 1) = M at hnx
      have hMH := Lib.hid hMe
      clear hMe hM
      go_wp2_with (first
        | (go_at_call 14; ((with_reducible refine (hnx _).mono ?_); rintro e w' ⟨rfl, rfl⟩))
        | (at_builtin; refine wpList_append_fits _ rfl (.tmp 16) (.tmp 18) 30 rfl w.heap.size 22 i0 1 Tryd.underlying30 hi hz1 w.heap.size n (pw K) _ rfl (hown.alloc _) ⟨wr.heap.size, 0, none⟩ 1 1 [.int .u64 ((rev K n : Nat) : Int)] rfl rfl (by intro t u ht; match t, ht with | 0, ht => simp at ht; subst ht; simp [Addr.add]) (by intro u hu; simp at hu; subst hu; rfl) (by omega) ?_; intro w2 hown2 hgrow2))
      go_roundw
      case rel => exact ⟨n + 1, by omega, by omega, rfl, by rw [hMH.out], by rw [hRH.out]; exact hown2, (hb.alloc hb.size _).grown hgrow2 (by simp; have := hb.size; omega) (fun k hk => by cases hk; exact Nat.le_refl _)⟩
      case measure => simp [lenV]; omega
    · have : n = pw K := by omega
      subst this
      have hz : (((rev K (pw K) : Nat) : Int) != 0) = false := by
        have := rev_pow K
        unfold pw; simp; omega
      go_wp2
      go_ret
      refine ⟨w.heap.size, rfl, Nat.le_refl _, (hown.lt _ rfl).2, fun j hj => ?_, hb⟩
      rw [hown.cellAt j (by omega)]
      exact revs_at K (pw K) j hj

/-- The two numbers by which the statements' own test asks whether the seed counts. -/
theorem text_ne : textI 1 [97] ≠ textI 2 [97] := by decide +kernel

theorem walked_two (w w' : World) (e : Ending) (hFac : Fac w) (hz : 0 < w.heap.size) (h : Walked 2 w e w') :
    ∃ g, e = .returned (.slice (some ⟨g, 0, none⟩) 4 4) ∧ w'.cell? ⟨g, 1, none⟩ = some (.int .u64 2) ∧ w'.cell? ⟨g, 2, none⟩ = some (.int .u64 1) ∧ Fac w' ∧ Below w.heap.size w w' := by
  obtain ⟨g, rfl, _, _, hc, hb⟩ := h
  exact ⟨g, rfl, hc 1 (by decide), hc 2 (by decide), ⟨(hb.cell hz).trans hFac.1, (hb.cell hz).trans hFac.2⟩, hb⟩

set_option maxHeartbeats 1000000 in
theorem alive_any (w : World) (hFac : Fac w) (hz : 0 < w.heap.size) : Calls Tryd.prog 7 #[] w fun e w' => e = .returned (.bool true) ∧ Below w.heap.size w w' := by
  have hwk : Calls Tryd.prog 17 #[.int .i64 2] w fun e w' => ∃ g, e = .returned (.slice (some ⟨g, 0, none⟩) 4 4) ∧ w'.cell? ⟨g, 1, none⟩ = some (.int .u64 2) ∧ w'.cell? ⟨g, 2, none⟩ = some (.int .u64 1) ∧ Fac w' ∧ Below w.heap.size w w' :=
    (walk_any 2 w).mono fun e w' h => walked_two w w' e hFac hz h
  have hn : ∀ w, Calls Tryd.prog 14 #[.int .u64 3, .int .i64 2] w fun e w' => e = .returned (.int .u64 0) ∧ w = w' := fun w => next_any 3 2 (by omega) w
  have ho1 : ∀ w, Fac w → Calls Tryd.prog 9 #[.int .u64 1, .string ⟨#[97]⟩] w fun e w' => e = .returned (.int .u64 (textI 1 [97])) ∧ w = w' := fun w h => of_any 1 ⟨#[97]⟩ ⟨by omega, by omega⟩ (by decide) w h
  have ho2 : ∀ w, Fac w → Calls Tryd.prog 9 #[.int .u64 2, .string ⟨#[97]⟩] w fun e w' => e = .returned (.int .u64 (textI 2 [97])) ∧ w = w' := fun w h => of_any 2 ⟨#[97]⟩ ⟨by omega, by omega⟩ (by decide) w h
  have hne : (textI 1 [97] != textI 2 [97]) = true := by simpa using text_ne
  generalize textI 1 [97] = A1 at *
  generalize textI 2 [97] = A2 at *
  go_enter Tryd.func7, Tryd.ntmps7
  go_wp2_with (first
    | (go_at_call 17; ((with_reducible refine hwk.mono ?_); rintro e w' ⟨g, rfl, hc1, hc2, hF, hb⟩))
    | (go_at_call 14; ((with_reducible refine (hn _).mono ?_); rintro e w' ⟨rfl, rfl⟩))
    | (go_at_call 9; ((with_reducible refine (ho1 _ (by assumption)).mono ?_); rintro e w' ⟨rfl, rfl⟩))
    | (go_at_call 9; ((with_reducible refine (ho2 _ (by assumption)).mono ?_); rintro e w' ⟨rfl, rfl⟩)))
  go_ret
  exact ⟨rfl, hb⟩

end Go.Proofs.YtinolmaamccjbaaDoor
