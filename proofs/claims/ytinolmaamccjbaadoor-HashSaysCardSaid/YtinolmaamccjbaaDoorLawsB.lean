/-
  The walk of the statement on walks: it begins at 0, goes on by the cursor behind each, has each once, and ends where 0 is behind. The table of factors holds what the program's text lays.
-/
import Derived.Test.YtinolmaamccjbaaDoorLaws
namespace Go.Proofs.YtinolmaamccjbaaDoor
open Go.RowKit


/-- A block that is known whole. -/
def Blk (w : World) (g : Nat) (t : TypeId) (cs : Array Value) : Prop := w.heap[g]? = some (.cells cs t (0, 0))
section
variable {w w' : World} {g : Nat} {t : TypeId} {cs : Array Value}
theorem Blk.lt (h : Blk w g t cs) : g < w.heap.size := by
  rcases Nat.lt_or_ge g w.heap.size with hlt | hge
  · exact hlt
  · unfold Blk at h; rw [Array.getElem?_eq_none hge] at h; cases h
theorem Blk.cell (h : Blk w g t cs) (i : Nat) : w.cell? ⟨g, i, none⟩ = cs[i]? := cell_of_row w g i cs t (0, 0) h
theorem Blk.frozen (h : Blk w g t cs) (i : Nat) : w.frozen? ⟨g, i, none⟩ = false := by
  unfold Blk at h
  simp [World.frozen?, h]
theorem Blk.drewN (h : Blk w g t cs) (n : Nat) : Blk (w.drewN n) g t cs := h
theorem Blk.drew (h : Blk w g t cs) : Blk w.drew g t cs := h
theorem Blk.alloc (h : Blk w g t cs) (o : Obj) : Blk (w.alloc o) g t cs := (Below.heap_alloc w o g h.lt).trans h
theorem Blk.new (w : World) (t : TypeId) (cs : Array Value) : Blk (w.alloc (.cells cs t)) w.heap.size t cs := heap_alloc_new w _
theorem Blk.set_ (h : Blk w g t cs) (i : Nat) (u : Value) : Blk (w.setCell ⟨g, i, none⟩ u) g t (cs.setIfInBounds i u) := by
  unfold Blk at h ⊢
  simp [World.setCell, Array.getElem?_modify, h]
theorem Blk.far (h : Blk w g t cs) {p : Addr} (hp : g ≠ p.block) (u : Value) : Blk (w.setCell p u) g t cs := (Below.heap_setCell w p u g hp).trans h
theorem Blk.row (h : Blk w g t cs) (c' : Array Value) : Blk (w.setRow g c') g t c' := setRow_heap w g cs c' t (0, 0) h
theorem Blk.rowFar (h : Blk w g t cs) {k : Nat} (hk : g ≠ k) (c' : Array Value) : Blk (w.setRow k c') g t cs := (setRow_other w k g c' hk).trans h
theorem Blk.below {B : Nat} (h : Blk w g t cs) (hb : Below B w w') (hg : g < B) : Blk w' g t cs := (hb.block g hg).trans h
end

/-- A row of truth values, as cells. -/
def bcells (n : Nat) (f : Nat → Bool) : Array Value := ((List.range n).map fun i => Value.bool (f i)).toArray
theorem bcells_at (n : Nat) (f : Nat → Bool) (i : Nat) (h : i < n) : (bcells n f)[i]? = some (.bool (f i)) := by simp [bcells, h]
theorem bcells_set (n : Nat) (f : Nat → Bool) (i : Nat) (b : Bool) : (bcells n f).setIfInBounds i (.bool b) = bcells n (fun j => if j = i then b else f j) := by
  apply Array.ext
  · simp [bcells]
  · intro j h1 h2
    simp [bcells] at h1 h2
    rw [Array.getElem_setIfInBounds (by simpa [bcells] using h1)]
    by_cases e : i = j
    · subst e; simp [bcells]
    · simp [bcells, e, Ne.symm e]
theorem bcells_congr {n : Nat} {f g : Nat → Bool} (h : ∀ i, i < n → f i = g i) : bcells n f = bcells n g := by
  unfold bcells
  congr 1
  apply List.map_congr_left
  intro i hi
  rw [h i (by simpa using hi)]
theorem made_bools (n : Nat) : madeCells (Value.bool false).cells (n * 1) = bcells n (fun _ => false) := by
  apply Array.ext
  · simp [bcells, madeCells]
  · intro j h1 h2
    have e : (Value.bool false).cells[j % (Value.bool false).cells.size]! = Value.bool false := by
      have : (Value.bool false).cells = #[Value.bool false] := rfl
      rw [this]
      simp [Nat.mod_one]
    simpa [madeCells, bcells] using e

/-- 'make([]bool, n)', n a variable: the block is known whole. -/
theorem wpList_make_bools {P : Program} (w : World) {ops : Array Oper} {rest : List Oper} {o : Oper} {a : Act} {Q : Exit → Act → World → Prop}
    (hg : o.guard = none) (l c : Operand) (t : TypeId) (hop : o.op = Op.makeSlice t l c)
    (e : TypeId) (i : TypeInfo) (h1 : P.underlying t = some (.slice e)) (h2 : P.info? e = some i) (h3 : i.zero = some (.bool false)) (h4 : i.size = 1)
    (kl kc : IntKind) (L C : Int) (n : Nat) (hl : a.eval l = .int kl L) (hc : a.eval c = .int kc C) (hL : L = (n : Int)) (hC : C = (n : Int)) (b2 : i.bytes * n ≤ 281474976710656) (b3 : n ≤ maxLen)
    (hK : wpList P ops Q rest (a.put o.dst (.slice (some ⟨w.heap.size, 0, none⟩) n n)) (w.alloc (.cells (bcells n (fun _ => false)) e))) :
    wpList P ops Q (o :: rest) a w := by
  refine wpList_plain hg fun K hK' => ?_
  have h63' : (n : Int) ≤ 9223372036854775807 := by
    have h := b3
    simp [maxLen] at h
    omega
  have hb' : (i.bytes : Int) * (n : Int) ≤ 281474976710656 := by
    have h : ((i.bytes * n : Nat) : Int) ≤ 281474976710656 := by omega
    rwa [Int.natCast_mul] at h
  have hrun := run_make (P := P) w t e i (.bool false) h1 h2 h3 kl kc n n (by omega) (Int.le_refl _) hb' h63'
  rw [h4, Int.toNat_natCast, made_bools] at hrun
  subst hL
  subst hC
  unfold Oper.wp
  simp [execOp, hop, hl, hc, hrun, Result.andThen]
  exact hK' _ _ hK

theorem info_bool : (Tryd.prog.info? 4).map (fun i => (i.zero, i.size, i.bytes)) = some (some (.bool false), 1, 1) := by kernel_rfl

set_option maxHeartbeats 2000000 in
theorem walks_walk (b : Int) (w : World) (hFac : Fac w) (hz : 0 < w.heap.size) :
    Calls Tryd.prog 5 #[.int .i64 b] w fun e w' => e = .returned (.bool true) ∧ Below w.heap.size w w' := by
  obtain ⟨i0, hi, hz0, hz1, hz2⟩ := info_parts info_bool
  have ha := fun w hF hz => alive_any w hF hz
  have hwk := walk_any b w
  have hP := fun w => rplaces_any b w
  have hx : ∀ (n : Nat) w, n < 18446744073709551616 → Calls Tryd.prog 14 #[.int .u64 n, .int .i64 b] w fun e w' => e = .returned (.int .u64 ((nxt (szN b) n : Nat) : Int)) ∧ w = w' := fun n w hn => next_any n b hn w
  have hk := szN_le b
  generalize szN b = K at *
  have hp := pw_pos K
  have hpl := pw_le hk
  have hnz : (((pw K : Nat) : Int) == 0) = false := by simp; omega
  have hwz : IntKind.u64.wrap ((pw K : Nat) : Int) = ((pw K : Nat) : Int) := IntWalk.u64_in _ (by omega)
  unfold Walked at hwk
  go_enter Tryd.func5, Tryd.ntmps5
  go_wp2_with (first
    | (go_at_call 17; ((with_reducible refine hwk.mono ?_); rintro e w1 ⟨g, rfl, hg0, hg1, hcs, hb⟩; (have hcsH := Lib.hid hcs); clear hcs))
    | (go_at_call 16; ((with_reducible refine (hP _).mono ?_); rintro e w' ⟨rfl, rfl⟩))
    | (at_make; refine wpList_make_bools _ rfl _ _ 32 rfl 4 i0 Tryd.underlying32 hi hz0 hz1 _ _ _ _ (pw K) rfl rfl rfl rfl ?b2 ?b3 ?_))
  case b2 => rw [hz2]; omega
  case b3 => unfold maxLen; omega
  have hB0 : Blk (w1.alloc (.cells (bcells (pw K) fun _ => false) 4)) w1.heap.size 4 (bcells (pw K) fun _ => false) := Blk.new _ _ _
  have hbl0 : Below w1.heap.size w1 (w1.alloc (.cells (bcells (pw K) fun _ => false) 4)) := (Below.refl _ _).alloc (Nat.le_refl _) _
  generalize w1.alloc (.cells (bcells (pw K) fun _ => false) 4) = w2 at *
  go_wp2
  go_loopw [26] (fun i wr => ∃ k : Nat, k ≤ pw K ∧ i = .int .i64 k ∧ Blk wr w1.heap.size 4 (bcells (pw K) fun j => decide (rev K j < k)) ∧ Below w1.heap.size w1 wr) (fun i _ => pw K - (intOf i).toNat)
  case atStart => exact ⟨0, Nat.zero_le _, rfl, by rw [bcells_congr (g := fun _ => false) (by intro i _; simp)]; exact hB0, hbl0⟩
  case round =>
    obtain ⟨k, hkP, rfl, hB, hbl⟩ := hrel
    by_cases hlt : k < pw K
    · have hc1 : wr.cell? ⟨g, k, none⟩ = some (.int .u64 ((rev K k : Nat) : Int)) := (hbl.cell (p := ⟨g, k, none⟩) hg1).trans (hcsH.out k hlt)
      have hCl := rev_pw K k
      have hrr : rev K (rev K k) = k := by rw [rev_rev]; exact Nat.mod_eq_of_lt hlt
      have hc2 : wr.cell? ⟨w1.heap.size, rev K k, none⟩ = some (.bool false) := by
        rw [hB.cell, bcells_at _ _ _ hCl, hrr]; simp
      have hfz := hB.frozen (rev K k)
      have hB2 : Blk (wr.setCell ⟨w1.heap.size, rev K k, none⟩ (.bool true)) w1.heap.size 4 (bcells (pw K) fun j => decide (rev K j < k + 1)) := by
        have h := hB.set_ (rev K k) (.bool true)
        rw [bcells_set] at h
        rw [bcells_congr (g := fun j => if j = rev K k then true else decide (rev K j < k))]
        · exact h
        · intro j hj
          by_cases e : j = rev K k
          · subst e; rw [hrr]; simp
          · have hne : rev K j ≠ k := fun h => e (by rw [← h, rev_rev]; exact (Nat.mod_eq_of_lt hj).symm)
            simp only [e, if_false, decide_eq_decide]
            omega
      have hbl2 : Below w1.heap.size w1 (wr.setCell ⟨w1.heap.size, rev K k, none⟩ (.bool true)) := hbl.setCell (by simp) _
      have hB2H := Lib.hid hB2
      clear hB2 hB hrr
      rcases k with _ | k
      · have hz0 : rev K 0 = 0 := rev_zero K
        rw [hz0] at hc1 hCl hc2 hfz hB2H hbl2
        clear hz0
        go_wp2
        go_roundw
        case rel => exact ⟨0 + 1, by omega, by go_num, hB2H.out, hbl2⟩
        case measure => simp [intOf]; omega
      · have hc3 : wr.cell? ⟨g, k, none⟩ = some (.int .u64 ((rev K k : Nat) : Int)) := (hbl.cell (p := ⟨g, k, none⟩) hg1).trans (hcsH.out k (by omega))
        have hnx : ∀ w, Calls Tryd.prog 14 #[.int .u64 ((rev K k : Nat) : Int), .int .i64 b] w fun e w' => e = .returned (.int .u64 ((rev K (k + 1) : Nat) : Int)) ∧ w = w' := by
          intro w
          have h := hx (rev K k) w (by have := rev_pw K k; omega)
          rw [nxt_rev K k (show k < pw K by omega)] at h
          exact h
        clear hx
        generalize hR : rev K (k + 1) = C at *
        clear hR
        generalize hR : rev K k = D at *
        clear hR
        go_wp2_with (go_at_call 14; ((with_reducible refine (hnx _).mono ?_); rintro e w' ⟨rfl, rfl⟩))
        go_roundw
        case rel => exact ⟨k + 1 + 1, by omega, by go_num, hB2H.out, hbl2⟩
        case measure => simp [intOf]; omega
    · have : k = pw K := by omega
      subst this
      have hl : pw K - 1 < pw K := by omega
      have hc1 : wr.cell? ⟨g, pw K - 1, none⟩ = some (.int .u64 ((rev K (pw K - 1) : Nat) : Int)) := (hbl.cell (p := ⟨g, pw K - 1, none⟩) hg1).trans (hcsH.out _ hl)
      have hnx : ∀ w, Calls Tryd.prog 14 #[.int .u64 ((rev K (pw K - 1) : Nat) : Int), .int .i64 b] w fun e w' => e = .returned (.int .u64 0) ∧ w = w' := by
        intro w
        have h := hx (rev K (pw K - 1)) w (by have := rev_pw K (pw K - 1); omega)
        rw [nxt_rev K _ hl, show pw K - 1 + 1 = 2 ^ K by unfold pw at *; omega, rev_pow] at h
        exact h
      have hFr : Fac wr := by
        have hs := hb.size
        have h := hb.trans (hbl.mono (by omega))
        exact ⟨(h.cell hz).trans hFac.1, (h.cell hz).trans hFac.2⟩
      have hzr : 0 < wr.heap.size := by have := hbl.size; omega
      have har := ha wr hFr hzr
      clear ha hx
      generalize rev K (pw K - 1) = D at *
      go_wp2_with (first
        | (go_at_call 14; ((with_reducible refine (hnx _).mono ?_); rintro e w' ⟨rfl, rfl⟩))
        | (go_at_call 7; ((with_reducible refine har.mono ?_); rintro e w' ⟨rfl, hb3⟩)))
      go_ret
      have hs := hb.size
      have hs2 := hbl.size
      exact ⟨rfl, (hb.trans (hbl.mono (by omega))).trans (hb3.mono (by omega))⟩

end Go.Proofs.YtinolmaamccjbaaDoor
