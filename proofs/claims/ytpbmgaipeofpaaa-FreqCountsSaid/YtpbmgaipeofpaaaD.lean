/-
  A node leaves a ring, a node enters it; Len, Has, Oldest, sparse. Premises: a ring as it lies.
-/
import Derived.Test.YtpbmgaipeofpaaaC
namespace Go.Proofs.Ytpbmgaipeofpaaa
open Go.RowKit
variable {w w' : World} {g m room : Nat} {wk : Int} {bs : Nds} {nx pv : Nat → Nat}

theorem block_frozen {w : World} {b i : Nat} {C : Array Value} {t : TypeId} (h : w.heap[b]? = some (.cells C t (0, 0))) : w.frozen? ⟨b, i, none⟩ = false := by simp [World.frozen?, h]
theorem set_block {w : World} {b : Nat} {C : Array Value} {t : TypeId} (h : w.heap[b]? = some (.cells C t (0, 0))) (p i : Nat) (v : Value) : ∃ C', (w.setCell ⟨p, i, none⟩ v).heap[b]? = some (.cells C' t (0, 0)) := by
  by_cases e : b = p
  · subst e
    exact ⟨_, Joins.block_setCell h v⟩
  · exact ⟨C, by rw [set_heap _ _ _ _ e]; exact h⟩
theorem leave_ring (h : Raw w g m room wk bs nx pv) (hl : Lk nx pv g (blk bs) g) {b : Nat} (hb : b ∈ blk bs) :
    Calls Try.prog 42 #[ptr b] w fun e w' => e = .returned (.tuple #[]) ∧ Raw w' g m room wk bs (upd nx (pv b) (nx b)) (upd pv (nx b) (pv b)) ∧ Only (g :: blk bs) w w' := by
  have hb' : b ∈ g :: blk bs := List.mem_cons_of_mem _ hb
  have hp : pv b ∈ g :: blk bs := by
    rcases hl.pv_mem (x := b) (Or.inr hb) with e | e
    · rw [e]; simp
    · exact List.mem_cons_of_mem _ e
  have hn : nx b ∈ g :: blk bs := by
    rcases hl.nx_mem hb' with e | e
    · rw [e]; simp
    · exact List.mem_cons_of_mem _ e
  obtain ⟨a1, a2, _⟩ := h.cells hb'
  obtain ⟨_, d1, C1, t1, e1⟩ := h.cells hp
  obtain ⟨d2, _, C2, t2, e2⟩ := h.cells hn
  refine (leave_run a1 a2 d1 (block_frozen e1) (fun v => by rw [set_other _ (Or.inr (by omega))]; exact d2) (fun v => set_frozen v e2)).mono ?_
  rintro e w' ⟨rfl, k, rfl⟩
  refine ⟨rfl, ?_, ?_⟩
  · have h1 := (h.setnx (p := pv b) (nx b)).setpv (p := nx b) (pv b)
    exact ⟨h1.head, h1.node⟩
  · exact (((Only.refl _ w).set (p := ⟨pv b, 2, none⟩) (Or.inl hp) _).set (p := ⟨nx b, 1, none⟩) (Or.inl hn) _).drewN k
theorem enter_ring (h : Raw w g m room wk bs nx pv) (hl : Lk nx pv g (blk bs) g) {b : Nat} (hb : b ∉ g :: blk bs) {key : ByteArray} {u v : Value} (hB : w.heap[b]? = some (.cells #[.string key, u, v] 73 (0, 0))) :
    Calls Try.prog 43 #[ptr b, ptr (pv g), ptr g] w fun e w' => e = .returned (.tuple #[]) ∧ Raw w' g m room wk (bs ++ [(b, key)]) (upd (upd nx b g) (pv g) b) (upd (upd pv b (pv g)) g b) ∧ Only (b :: g :: blk bs) w w' := by
  have hg : g ∈ g :: blk bs := by simp
  have hp : pv g ∈ g :: blk bs := by
    rcases hl.pv_mem (x := g) (Or.inl rfl) with e | e
    · rw [e]; simp
    · exact List.mem_cons_of_mem _ e
  have n1 : pv g ≠ b := fun e => hb (e ▸ hp)
  have n2 : g ≠ b := fun e => hb (e ▸ hg)
  obtain ⟨_, d1, C1, t1, e1⟩ := h.cells hp
  obtain ⟨d2, _, C2, t2, e2⟩ := h.cells hg
  refine (enter_run (v1 := u) (v2 := v) (v3 := ptr (nx (pv g))) (v4 := ptr (pv g)) (Lib.cell_of_heap hB 1) (block_frozen hB) (fun x => set_frozen x hB)
    (fun x => by rw [set_other _ (Or.inr (by omega))]; exact Lib.cell_of_heap hB 2)
    (fun x y => by rw [set_other _ (Or.inl n1), set_other _ (Or.inl n1)]; exact d1)
    (fun x y => by obtain ⟨C', k1⟩ := set_block e1 b 1 x; exact set_frozen _ k1)
    (fun x y z => by rw [set_other _ (Or.inr (by omega)), set_other _ (Or.inl n2), set_other _ (Or.inl n2)]; exact d2)
    (fun x y z => by obtain ⟨C', k1⟩ := set_block e2 b 1 x; obtain ⟨C'', k2⟩ := set_block k1 b 2 y; exact set_frozen _ k2)).mono ?_
  rintro e w' ⟨rfl, rfl⟩
  refine ⟨rfl, ?_, ?_⟩
  · have h1 : Raw ((w.setCell ⟨b, 1, none⟩ (ptr (pv g))).setCell ⟨b, 2, none⟩ (ptr g)) g m room wk (bs ++ [(b, key)]) (upd nx b g) (upd pv b (pv g)) := by
      refine ⟨?_, fun q hq => ?_⟩
      · rw [upd_other _ _ n2, upd_other _ _ n2, set_heap _ _ _ _ n2, set_heap _ _ _ _ n2]
        exact h.head
      · rcases List.mem_append.1 hq with hq | hq
        · have n3 : q.1 ≠ b := fun e => hb (List.mem_cons_of_mem _ (e ▸ mem_blk hq))
          rw [upd_other _ _ n3, upd_other _ _ n3, set_heap _ _ _ _ n3, set_heap _ _ _ _ n3]
          exact h.node q hq
        · obtain rfl := List.mem_singleton.1 hq
          rw [upd_at, upd_at, Joins.block_setCell (Joins.block_setCell hB (ptr (pv g))) (ptr g)]
          rfl
    exact (h1.setnx (p := pv g) b).setpv (p := g) b
  · have m1 : b ∈ b :: g :: blk bs := by simp
    exact ((((Only.refl _ w).set (p := ⟨b, 1, none⟩) (Or.inl m1) _).set (p := ⟨b, 2, none⟩) (Or.inl m1) _).set (p := ⟨pv g, 2, none⟩) (Or.inl (List.mem_cons_of_mem _ hp)) _).set (p := ⟨g, 1, none⟩) (Or.inl (List.mem_cons_of_mem _ hg)) _

/-- Len. -/
theorem len_nil (w : World) : Calls Try.prog 33 #[.pointer none] w fun e w' => e = .returned (.int .i64 0) ∧ w = w' := by
  go_enter Try.func33, Try.ntmps33
  go_wp2
  all_goals go_ret
  all_goals exact ⟨rfl, rfl⟩
/-- A head: a place in a block. -/
abbrev hdp (p j : Nat) : Value := .pointer (some ⟨p, j, none⟩)
theorem len_zero {w : World} {p j : Nat} (c0 : w.cell? ⟨p, j, none⟩ = some (.pointer none)) : Calls Try.prog 33 #[hdp p j] w fun e w' => e = .returned (.int .i64 0) ∧ w = w' := by
  go_enter Try.func33, Try.ntmps33
  go_wp2
  all_goals go_ret
  all_goals exact ⟨rfl, rfl⟩
theorem len_run {w : World} {p j g m n : Nat} (c0 : w.cell? ⟨p, j, none⟩ = some (ptr g)) (c1 : w.cell? ⟨g, 3, none⟩ = some (.map (some m))) (hl : ∀ ty, (Builtin.len_ #[74] ty #[.map (some m)]).run Try.prog w = .ok (.int .i64 (n : Int)) w) :
    Calls Try.prog 33 #[hdp p j] w fun e w' => e = .returned (.int .i64 (n : Int)) ∧ w = w' := by
  go_enter Try.func33, Try.ntmps33
  go_wp2
  all_goals go_ret
  all_goals exact ⟨rfl, rfl⟩
/-- Has. -/
theorem has_empty {w : World} {pv : Value} (key : ByteArray) (hL : Calls Try.prog 33 #[pv] w fun e w' => e = .returned (.int .i64 0) ∧ w = w') :
    Calls Try.prog 37 #[pv, .string key] w fun e w' => e = .returned (.bool false) ∧ w = w' := by
  have hLH := Lib.hid hL
  clear hL
  go_enter Try.func37, Try.ntmps37
  go_wp2_with (go_at_call 33; ((with_reducible refine (hLH.out).mono ?_); rintro e w' ⟨rfl, rfl⟩))
  all_goals go_ret
  all_goals exact ⟨rfl, rfl⟩
theorem has_run {w : World} {p j g m n : Nat} {key : ByteArray} {v : Value} {b : Bool} (hn : 0 < n) (hL : Calls Try.prog 33 #[hdp p j] w fun e w' => e = .returned (.int .i64 (n : Int)) ∧ w = w') (c0 : w.cell? ⟨p, j, none⟩ = some (ptr g)) (c1 : w.cell? ⟨g, 3, none⟩ = some (.map (some m)))
    (hk : (Instr.lookup 74 (.map (some m)) (.string key) true).run Try.prog w = .ok (.tuple #[v, .bool b]) w) :
    Calls Try.prog 37 #[hdp p j, .string key] w fun e w' => e = .returned (.bool b) ∧ w = w' := by
  have hLH := Lib.hid hL
  have hz : ((n : Int) == 0) = false := beq_false_of_ne (by omega)
  clear hL hn
  go_enter Try.func37, Try.ntmps37
  go_wp2_with (go_at_call 33; ((with_reducible refine (hLH.out).mono ?_); rintro e w' ⟨rfl, rfl⟩))
  all_goals go_ret
  all_goals exact ⟨rfl, rfl⟩
/-- Oldest. -/
theorem oldest_empty {w : World} {pv : Value} (hL : Calls Try.prog 33 #[pv] w fun e w' => e = .returned (.int .i64 0) ∧ w = w') :
    Calls Try.prog 31 #[pv] w fun e w' => e = .returned (.tuple #[.string ⟨#[]⟩, .bool false]) ∧ w = w' := by
  have hLH := Lib.hid hL
  clear hL
  go_enter Try.func31, Try.ntmps31
  go_wp2_with (go_at_call 33; ((with_reducible refine (hLH.out).mono ?_); rintro e w' ⟨rfl, rfl⟩))
  all_goals go_ret2
  all_goals exact ⟨rfl, rfl⟩
theorem oldest_run {w : World} {p j g b n : Nat} {key : ByteArray} (hn : 0 < n) (hL : Calls Try.prog 33 #[hdp p j] w fun e w' => e = .returned (.int .i64 (n : Int)) ∧ w = w') (c0 : w.cell? ⟨p, j, none⟩ = some (ptr g)) (c1 : w.cell? ⟨g, 2, none⟩ = some (ptr b)) (c2 : w.cell? ⟨b, 0, none⟩ = some (.string key)) :
    Calls Try.prog 31 #[hdp p j] w fun e w' => e = .returned (.tuple #[.string key, .bool true]) ∧ w = w' := by
  have hLH := Lib.hid hL
  have hz : ((n : Int) == 0) = false := beq_false_of_ne (by omega)
  clear hL hn
  go_enter Try.func31, Try.ntmps31
  go_wp2_with (go_at_call 33; ((with_reducible refine (hLH.out).mono ?_); rintro e w' ⟨rfl, rfl⟩))
  all_goals go_ret2
  all_goals exact ⟨rfl, rfl⟩
/-- sparse. -/
theorem sparse_run {w : World} {g m n r : Nat} (hn : n ≤ 1000001) (c1 : w.cell? ⟨g, 3, none⟩ = some (.map (some m))) (c2 : w.cell? ⟨g, 4, none⟩ = some (.int .i64 (r : Int))) (hl : ∀ ty k, (Builtin.len_ #[74] ty #[.map (some m)]).run Try.prog (w.drewN k) = .ok (.int .i64 (n : Int)) (w.drewN k)) :
    Calls Try.prog 40 #[ptr g] w fun e w' => e = .returned (.bool (decide ((8 : Int) < (r : Int)) && decide (4 * (n : Int) < (r : Int)))) ∧ ∃ k, w' = w.drewN k := by
  have hw : IntKind.i64.wrap (4 * (n : Int)) = 4 * (n : Int) := IntWalk.i64_in _ (by omega)
  clear hn
  by_cases h8 : (8 : Int) < (r : Int)
  · have hd : decide ((8 : Int) < (r : Int)) = true := decide_eq_true h8
    rw [hd]
    clear h8
    go_enter Try.func40, Try.ntmps40
    go_wp2_with fail
    go_quiet (fail)
    go_wp2_with fail
    all_goals go_ret
    all_goals exact ⟨by simp, _, rfl⟩
  · have hd : decide ((8 : Int) < (r : Int)) = false := decide_eq_false h8
    rw [hd]
    clear h8
    go_enter Try.func40, Try.ntmps40
    go_wp2_with fail
    go_quiet (fail)
    go_wp2_with fail
    all_goals go_ret
    all_goals exact ⟨by simp, _, rfl⟩
end Go.Proofs.Ytpbmgaipeofpaaa
