/-
  The walks of move (another room) and empty (what went is cleared). No condition but the sizes that a list's room has.
-/
import Derived.Test.YtnmcedkinacbpaaC
namespace Go.Proofs.Ytnmcedkinacbpaa
open Go.RowKit

theorem Hd.setF {w : World} {D : Nat} {a : Option Addr} {N f n : Nat} (h : Hd w D a N f n) (f' : Nat) : Hd (w.setCell ⟨D, 1, none⟩ (.int .i64 (f' : Int))) D a N f' n := by
  unfold Hd at *
  rw [setCell_eq_setRow _ _ _ _ _ _ _ h, setRow_heap _ _ _ _ _ _ h]
  rfl
theorem Hd.setN {w : World} {D : Nat} {a : Option Addr} {N f n : Nat} (h : Hd w D a N f n) (n' : Nat) : Hd (w.setCell ⟨D, 2, none⟩ (.int .i64 (n' : Int))) D a N f n' := by
  unfold Hd at *
  rw [setCell_eq_setRow _ _ _ _ _ _ _ h, setRow_heap _ _ _ _ _ _ h]
  rfl
theorem Hd.setA {w : World} {D : Nat} {a : Option Addr} {N f n : Nat} (h : Hd w D a N f n) (a' : Option Addr) (N' : Nat) : Hd (w.setCell ⟨D, 0, none⟩ (.slice a' N' N')) D a' N' f n := by
  unfold Hd at *
  rw [setCell_eq_setRow _ _ _ _ _ _ _ h, setRow_heap _ _ _ _ _ _ h]
  rfl

def intObj (n : Nat) : Obj := .cells (List.replicate n (Value.int .i64 0)).toArray 3
theorem info_int : (Try.prog.info? 3).map (fun i => (i.zero, i.size, i.bytes)) = some (some (.int .i64 0), 1, 8) := by kernel_rfl
theorem info_parts {P : Program} {t : TypeId} {z : Value} {s b : Nat} (h : (P.info? t).map (fun i => (i.zero, i.size, i.bytes)) = some (some z, s, b)) : ∃ i, P.info? t = some i ∧ i.zero = some z ∧ i.size = s ∧ i.bytes = b := by
  cases hq : P.info? t with
  | none => rw [hq] at h; cases h
  | some i =>
    rw [hq] at h
    simp at h
    exact ⟨i, rfl, h.1, h.2.1, h.2.2⟩
theorem made_ints (n : Nat) : madeCells (Value.int .i64 0).cells (n * 1) = (List.replicate n (Value.int .i64 0)).toArray := by
  apply Array.ext
  · simp [madeCells]
  · intro i h1 h2
    simp [madeCells]
    show (#[Value.int .i64 0] : Array Value)[i % 1]! = Value.int .i64 0
    rw [Nat.mod_one]
    rfl
theorem run_ints (m : Int) (n : Nat) (hm : m = (n : Int)) (hn : n ≤ 1048576) (w : World) : (Instr.makeSlice 22 (.int .i64 m) (.int .i64 m)).run Try.prog w = .ok (.slice (some ⟨w.heap.size, 0, none⟩) n n) (w.alloc (intObj n)) := by
  subst hm
  obtain ⟨i, hi, h0, h1, h2⟩ := info_parts info_int
  have hb : (i.bytes : Int) * (n : Int) ≤ 281474976710656 := by rw [h2]; omega
  have := run_make (P := Try.prog) w 22 3 i (.int .i64 0) Try.underlying22 hi h0 .i64 .i64 n n (by omega) (by omega) hb (by omega)
  rw [h1] at this
  simp only [Int.toNat_natCast] at this
  rw [this, made_ints]
  rfl
theorem rot_zero {N k : Nat} (h : k < N) : rot N 0 k = k := by unfold rot; rw [if_neg (by omega)]; omega

/-- What move leaves. -/
def Moved (w : World) (D n : Nat) (x : Nat → Int) (w' : World) : Prop :=
  ∃ N', Hd w' D (some ⟨w.heap.size, 0, none⟩) N' 0 n ∧ Rg w' w.heap.size N' 0 0 n x ∧ Sh N' 0 n ∧ (n < 1048576 → n < N') ∧ Only [D] w w' ∧ w.heap.size < w'.heap.size
theorem moved_mk {w w2 : World} {D n N' : Nat} {a : Option Addr} {N f : Nat} {x : Nat → Int} (hD : D < w.heap.size) (h2 : Hd w2 D a N f n) (hb : Below w.heap.size (w.alloc (intObj N')) w2) {Y : List Value} (hY : w2.heap[w.heap.size]? = some (.cells Y.toArray 3 (0, 0))) (hl : Y.length = (List.replicate N' (Value.int .i64 0)).length) (hx : ∀ j, j < n → Y[j]? = some (.int .i64 (x (0 + j))))
    (hn : n ≤ N') (hN : N' ≤ 1048576) (h0 : 0 < N') (hlt : n < 1048576 → n < N') : Moved w D n x ((w2.setCell ⟨D, 0, none⟩ (.slice (some ⟨w.heap.size, 0, none⟩) N' N')).setCell ⟨D, 1, none⟩ (.int .i64 0)) := by
  have ho : Only [D] w w2 := by
    have h1 : Only [] w (w.alloc (intObj N')) := (Only.refl _ _).alloc _
    refine ⟨h1.1.trans (hb.mono (Nat.zero_le _)), fun k hk hn => ?_⟩
    rw [hb.block k (by omega)]
    exact h1.2 k hk (by simp)
  refine ⟨N', (h2.setA _ N').setF 0, ⟨Y.toArray, ?_, by simpa using hl, fun k _ hk => ?_⟩, ⟨Or.inl h0, hn, hN⟩, hlt, ((ho.set (Or.inl (by simp)) _).set (Or.inl (by simp)) _), ?_⟩
  · rw [Below.heap_setCell _ _ _ _ (by show w.heap.size ≠ D; omega), Below.heap_setCell _ _ _ _ (by show w.heap.size ≠ D; omega)]
    exact hY
  · rw [rot_zero (by omega)]
    have := hx k hk
    rw [Nat.zero_add] at this
    simpa using this
  · have := hb.size
    simp at this
    simp [World.setCell]; omega

theorem moved_hd {w w2 : World} {D n N' N f : Nat} {a : Option Addr} (hD : D < w.heap.size) (h : Hd w D a N f n) (hb : Below w.heap.size (w.alloc (intObj N')) w2) : Hd w2 D a N f n := by
  unfold Hd at *
  rw [hb.block D hD, Below.heap_alloc _ _ _ hD, h]
set_option maxHeartbeats 2000000 in
theorem move_any {w : World} {D g N f n : Nat} (h : Hd w D (some ⟨g, 0, none⟩) N f n) (hs : Sh N f n) {x : Nat → Int} (hx : Rg w g N f 0 n x) :
    Calls Try.prog 26 #[.pointer (some ⟨D, 0, none⟩)] w fun e w' => e = .returned (.tuple #[]) ∧ Moved w D n x w' := by
  have hg : g < w.heap.size := by
    obtain ⟨C, c1, _⟩ := hx
    exact some_lt c1
  have hD := some_lt h
  obtain ⟨c0, c1, c2, f0, f1, f2⟩ := h.facts
  obtain ⟨hn1, hn2⟩ := hs.2
  have key : ∀ N', n ≤ N' → N' ≤ 1048576 → Hid (Calls Try.prog 36 #[.pointer (some ⟨D, 0, none⟩), .slice (some ⟨w.heap.size, 0, none⟩) n N', .int .i64 0] (w.alloc (intObj N')) fun e w' => e = .returned (.tuple #[]) ∧ Below w.heap.size (w.alloc (intObj N')) w' ∧
      ∃ Y : List Value, w'.heap[w.heap.size]? = some (.cells Y.toArray 3 (0, 0)) ∧ Y.length = (List.replicate N' (Value.int .i64 0)).length ∧ (∀ j, j < n → Y[j]? = some (.int .i64 (x (0 + j)))) ∧ ∀ j, n ≤ j → Y[j]? = (List.replicate N' (Value.int .i64 0))[j]?) := by
    intro N' h1 h2
    have ho : Only [] w (w.alloc (intObj N')) := (Only.refl _ _).alloc _
    exact Lib.hid (copyTo_any (h.keep ho (by simp)) hs.zero (hx.keep ho (by simp)) 0 n N' w.heap.size (Nat.zero_le _) (by omega) (by omega) (List.replicate N' (.int .i64 0)) (heap_alloc_new w _) (by simpa using h1) h1 hg)
  have hh := Lib.hid h
  have hw := wrap_small (x := 2 * (n : Int)) (by omega)
  have hnb : n ≤ 1048576 := by omega
  clear h hs hx hn1
  by_cases hA : n < 4
  · have hA1 : 2 * (n : Int) < 8 := by omega
    have hA2 : (8 : Int) < 1048576 := by omega
    have hmk := fun w => run_ints (8) (8) (by omega) (by omega) w
    have hK := key (8) (by omega) (by omega)
    clear key
    go_enter Try.func26, Try.ntmps26
    go_wp2_with (go_at_call 36; ((with_reducible refine (hK.out).mono ?_); rintro e w2 ⟨rfl, hB, Y, hY1, hY2, hY3, _⟩; have hd2 := Lib.hid (moved_hd hD hh.out hB); have hBH := Lib.hid hB; have hY1H := Lib.hid hY1; have hY2H := Lib.hid hY2; have hY3H := Lib.hid hY3; obtain ⟨_, _, _, e0, e1, e2⟩ := hd2.out.facts; clear hB hY1 hY2 hY3))
    all_goals go_end0
    exact ⟨rfl, moved_mk hD hd2.out hBH.out hY1H.out hY2H.out hY3H.out (by omega) (by omega) (by omega) (fun _ => by omega)⟩
  · by_cases hB : n ≤ 524288
    · have hA1 : 8 ≤ 2 * (n : Int) := by omega
      have hA2 : 2 * (n : Int) ≤ 1048576 := by omega
      have hmk := fun w => run_ints (2 * (n : Int)) (2 * n) (by omega) (by omega) w
      have hK := key (2 * n) (by omega) (by omega)
      clear key
      go_enter Try.func26, Try.ntmps26
      go_wp2_with (go_at_call 36; ((with_reducible refine (hK.out).mono ?_); rintro e w2 ⟨rfl, hB, Y, hY1, hY2, hY3, _⟩; have hd2 := Lib.hid (moved_hd hD hh.out hB); have hBH := Lib.hid hB; have hY1H := Lib.hid hY1; have hY2H := Lib.hid hY2; have hY3H := Lib.hid hY3; obtain ⟨_, _, _, e0, e1, e2⟩ := hd2.out.facts; clear hB hY1 hY2 hY3))
      all_goals go_end0
      exact ⟨rfl, moved_mk hD hd2.out hBH.out hY1H.out hY2H.out hY3H.out (by omega) (by omega) (by omega) (fun _ => by omega)⟩
    · have hA1 : 8 ≤ 2 * (n : Int) := by omega
      have hA2 : 1048576 < 2 * (n : Int) := by omega
      have hmk := fun w => run_ints (1048576) (1048576) (by omega) (by omega) w
      have hK := key (1048576) (by omega) (by omega)
      clear key
      go_enter Try.func26, Try.ntmps26
      go_wp2_with (go_at_call 36; ((with_reducible refine (hK.out).mono ?_); rintro e w2 ⟨rfl, hB, Y, hY1, hY2, hY3, _⟩; have hd2 := Lib.hid (moved_hd hD hh.out hB); have hBH := Lib.hid hB; have hY1H := Lib.hid hY1; have hY2H := Lib.hid hY2; have hY3H := Lib.hid hY3; obtain ⟨_, _, _, e0, e1, e2⟩ := hd2.out.facts; clear hB hY1 hY2 hY3))
      all_goals go_end0
      exact ⟨rfl, moved_mk hD hd2.out hBH.out hY1H.out hY2H.out hY3H.out (by omega) (by omega) (by omega) (fun _ => by omega)⟩

end Go.Proofs.Ytnmcedkinacbpaa
