/-
  The walks of Step, New, Get, Moved. The table of factors holds what the program's text lays; a table's shape.
-/
import Derived.Test.YtdldgiicblmknaaDoorHL
namespace Go.Proofs.YtdldgiicblmknaaDoor
open Go.RowKit

structure Ok (B : Nat) (X : Tb) (w : World) : Prop where
  live : Live B X w
  inv : Inv X
theorem Ok.next {B : Nat} {X Y : Tb} {w w' : World} (h : Ok B X w) (ho : Only X.blocks w w') (hh : Here Y w') (hi : Inv Y) (hb : ∀ b ∈ Y.blocks, b ∈ X.blocks ∨ w.heap.size ≤ b) : Ok B Y w' :=
  ⟨⟨hh, hi.good, fac_only h.live.fac (by have := h.live.pos; have := h.live.le; omega) ho h.live.zero, h.live.pos, by have := h.live.le; have := ho.size; omega, fun b hm => (hb b hm).elim (h.live.own b) (fun h1 => by have := h.live.le; omega)⟩, hi⟩

theorem stepN_zero (X : Tb) : stepN 0 X = X := rfl
theorem stepN_snoc : ∀ (m : Nat) (X : Tb), stepN (m + 1) X = stepX (stepN m X) := by
  intro m
  induction m with
  | zero => intro X; rfl
  | succ m ih => intro X; exact ih (stepX X)
/-- What steps make of a table. -/
structure Steps (X Y : Tb) (m : Nat) : Prop where
  eq : Y = stepN m X
  inv : Inv Y
  perm : Y.ents.Perm X.ents
  rem : rem Y + m = rem X
  T : Y.T = X.T ∧ Y.seed = X.seed ∧ Y.count = X.count
  blk : ∀ b ∈ Y.blocks, b ∈ X.blocks
theorem Steps.zero {X : Tb} (h : Inv X) : Steps X X 0 := ⟨rfl, h, List.Perm.refl _, rfl, ⟨rfl, rfl, rfl⟩, fun _ hb => hb⟩
theorem Steps.more {X Y : Tb} {m : Nat} (h : Steps X Y m) (hn : Y.new ≠ []) : Steps X (stepX Y) (m + 1) :=
  ⟨by rw [stepN_snoc, h.eq], stepX_inv h.inv hn, (stepX_ents h.inv hn).trans h.perm, by have := rem_step h.inv hn; have := h.rem; omega, by have := stepX_T Y; rw [this.1, this.2.1, this.2.2]; exact h.T, fun b hb => h.blk b (stepX_blocks h.inv hn b hb)⟩

theorem parted_at {X : Tb} {w : World} (h : Here X w) : Calls Tryd.prog 48 #[.pointer (some ⟨X.T, 0, none⟩)] w fun e w' => e = .returned (.bool (decide (0 < X.new.length))) ∧ w = w' := parted_any w h.tab

set_option maxHeartbeats 2000000 in
theorem steps_any {B : Nat} {X : Tb} {w : World} (h : Ok B X w) (n : Int) (hn : -9223372036854775808 ≤ n ∧ n ≤ 9223372036854775807) :
    Calls Tryd.prog 26 #[.pointer (some ⟨X.T, 0, none⟩), .int .i64 n] w fun e w' => ∃ (m : Nat) (Y : Tb), e = .returned (.int .i64 (m : Int)) ∧ m = min n.toNat (rem X) ∧ Steps X Y m ∧ Ok B Y w' ∧ Only X.blocks w w' := by
  have hH := Lib.hid h
  obtain ⟨hn1, hn2⟩ := hn
  go_enter Tryd.func26, Tryd.ntmps26
  go_wp2_with fail
  go_loopw [5] (fun s5 wr => ∃ (m : Nat) (Y : Tb), s5 = .int .i64 m ∧ Hid (Steps X Y m) ∧ Hid (Ok B Y wr) ∧ Hid (Only X.blocks w wr) ∧ m ≤ n.toNat) (fun s5 _ => n.toNat - (intOf s5).toNat)
  case atStart => exact ⟨0, X, rfl, Lib.hid (Steps.zero hH.out.inv), hH, Lib.hid (Only.refl _ _), Nat.zero_le _⟩
  case round =>
    obtain ⟨m, Y, rfl, hS, hO, ho, hm⟩ := hrel
    have hT : Y.T = X.T := hS.out.T.1
    by_cases hlt : (m : Int) < n
    · by_cases hY : Y.new = []
      · have hp := parted_at hO.out.live.here
        rw [hY, hT] at hp
        simp only [List.length_nil, Nat.lt_irrefl, decide_false] at hp
        have hpH := Lib.hid hp
        have hr : rem Y = 0 := (rem_zero hS.out.inv).2 hY
        have hmr : m = min n.toNat (rem X) := by have := hS.out.rem; omega
        have hmrH := Lib.hid hmr
        clear hp hr hmr hY hT
        go_wp2_with (go_at_call 48; ((with_reducible refine (hpH.out).mono ?_); rintro e w' ⟨rfl, rfl⟩))
        go_ret
        exact ⟨m, Y, rfl, hmrH.out, hS.out, hO.out, ho.out⟩
      · have hp := parted_at hO.out.live.here
        have hYl : 0 < Y.new.length := List.length_pos_iff.2 hY
        rw [hT] at hp
        simp only [hYl, decide_true] at hp
        have hpH := Lib.hid hp
        have hst := step_any hO.out.live hO.out.inv.ext hY
        rw [hT] at hst
        have hstH := Lib.hid hst
        have hYH := Lib.hid hY
        clear hp hst hY hT hYl
        go_wp2_with (first
          | (go_at_call 48; ((with_reducible refine (hpH.out).mono ?_); rintro e w' ⟨rfl, rfl⟩))
          | (go_at_call 49; ((with_reducible refine (hstH.out).mono ?_); rintro e w' ⟨rfl, hq⟩)))
        have hq1 := Lib.hid hq
        clear hq
        go_wp2_with fail
        go_roundw
        case rel => exact ⟨m + 1, stepX Y, by go_num, Lib.hid (hS.out.more hYH.out), Lib.hid (hO.out.next hq1.out.1 hq1.out.2 (stepX_inv hO.out.inv hYH.out) (fun b hb => Or.inl (stepX_blocks hO.out.inv hYH.out b hb))), Lib.hid (ho.out.trans hq1.out.1 (fun b hb => Or.inl (hS.out.blk b hb))), by omega⟩
        case measure => simp [intOf]; omega
    · have hmr : m = min n.toNat (rem X) := by have := hS.out.rem; omega
      have hmrH := Lib.hid hmr
      clear hmr hT
      go_wp2_with fail
      go_ret
      exact ⟨m, rfl, hmrH.out, Y, hS.out, hO.out, ho.out⟩

theorem len_at {B : Nat} {X : Tb} {w : World} (h : Ok B X w) : Calls Tryd.prog 23 #[.pointer (some ⟨X.T, 0, none⟩)] w fun e w' => e = .returned (.int .i64 (X.count : Int)) ∧ w = w' := len_any w h.live.here.tab
theorem size_at {B : Nat} {X : Tb} {w : World} (h : Ok B X w) {k : Nat} (hk : SzOk X.old.length k) : Calls Tryd.prog 30 #[.pointer (some ⟨X.T, 0, none⟩)] w fun e w' => e = .returned (.int .i64 (k : Int)) ∧ w = w' := tsize_any w h.live.here.tab hk

def newX (T : Nat) (seed : Int) : Tb := ⟨T, seed, none, none, [], [], 0, 0, []⟩
theorem new_inv (T : Nat) (seed : Int) (hU : U seed) : Inv (newX T seed) :=
  ⟨⟨hU, ⟨2, Or.inl ⟨rfl, rfl⟩⟩, ⟨2, Or.inl ⟨rfl, rfl⟩⟩, fun h => absurd rfl h, fun e he => by simp [Tb.ents, newX] at he, by simp [newX]⟩, fun h => absurd rfl h, rfl, by simp [Tb.ents, newX], plOk_nil _, plOk_nil _, rfl⟩
theorem new_ok {B : Nat} {w' : World} (T : Nat) (seed : Int) (hU : U seed) (hF : Fac w') (hB : 0 < B) (hBT : B ≤ T) (ht : w'.heap[T]? = some (newX T seed).head) : Ok B (newX T seed) w' := by
  have hlt := some_lt ht
  refine ⟨⟨⟨?_, by simp [newX, Tb.blocks, Tb.ents], by simp [newX], by simp [newX]⟩, (new_inv T seed hU).good, hF, hB, by omega, ?_⟩, new_inv T seed hU⟩
  · intro q hq
    rw [objs_iff] at hq
    rcases hq with rfl | ⟨b, hb, _⟩ | ⟨b, hb, _⟩ | ⟨c, hc, _⟩ | ⟨c, hc, _⟩ | hq
    · exact ht
    · cases hb
    · cases hb
    · cases hc
    · cases hc
    · cases hq
  · intro b hb
    simp [newX, Tb.blocks, Tb.ents] at hb
    omega

set_option maxHeartbeats 1000000 in
theorem new_any (seed : Int) (w : World) : Calls Tryd.prog 9 #[.int .u64 seed] w fun e w' => e = .returned (.pointer (some ⟨w.heap.size, 0, none⟩)) ∧ w' = w.alloc (newX w.heap.size seed).head := by
  go_enter Tryd.func9, Tryd.ntmps9
  go_wp2
  go_ret
  exact ⟨rfl, rfl⟩

end Go.Proofs.YtdldgiicblmknaaDoor
