/-
  Rows of numbers of one's own; the walks of Cut, All, Keep, New.
-/
import Derived.Test.YtnmcedkinacbpaaJ
import Derived.Laws.AppendOwnNone
import Derived.Maps.AppendAt
import Derived.Deep.RegionLaw
namespace Go.Proofs.Ytnmcedkinacbpaa
open Go.RowKit

def vals (L : List Int) : List Value := L.map fun x => .int .i64 x
theorem vals_len (L : List Int) : (vals L).length = L.length := by simp [vals]
theorem vals_at {L : List Int} {j : Nat} {x : Int} (h : L[j]? = some x) : (vals L)[j]? = some (.int .i64 x) := by simp [vals, h]
theorem vals_one (L : List Int) : ∀ u ∈ vals L, u.oneCell' = true := by
  intro u hu
  obtain ⟨x, _, rfl⟩ := List.mem_map.1 hu
  rfl
theorem vals_app (L M : List Int) : vals (L ++ M) = vals L ++ vals M := by simp [vals]
theorem vals_inv {L : List Int} {j : Nat} {u : Value} (h : (vals L)[j]? = some u) : ∃ x, L[j]? = some x ∧ u = .int .i64 x := by
  unfold vals at h
  rw [List.getElem?_map] at h
  cases hm : L[j]? with
  | none => rw [hm] at h; cases h
  | some y => rw [hm] at h; exact ⟨y, rfl, (Option.some.inj h).symm⟩
/-- A row of numbers of one's own, from a block on. -/
def RowI (w : World) (base : Nat) (v : Value) (L : List Int) : Prop := w.ownsRow base 3 1 v L.length (vals L)
theorem rowI_nil (w : World) (base : Nat) : RowI w base (.slice none 0 0) [] := World.ownsRow_nil w base 3 1
theorem RowI.form {w : World} {base : Nat} {v : Value} {L : List Int} (h : RowI w base v L) : (v = .slice none 0 0 ∧ L = []) ∨ ∃ g cap, v = .slice (some ⟨g, 0, none⟩) L.length cap ∧ base ≤ g ∧ g < w.heap.size ∧ L.length ≤ cap ∧ ∀ j x, L[j]? = some x → w.cell? ⟨g, j, none⟩ = some (.int .i64 x) ∧ w.frozen? ⟨g, j, none⟩ = false := by
  have h' := h
  obtain ⟨h1, ⟨rfl, h2⟩ | ⟨g, cap, cur, rfl, h3, h4, h5, h6, h7, h8⟩⟩ := h
  · exact Or.inl ⟨rfl, List.length_eq_zero_iff.1 h2⟩
  · refine Or.inr ⟨g, cap, rfl, h3, some_lt h4, h5, fun j x hj => ⟨?_, by simp [World.frozen?, h4]⟩⟩
    have hlt : j < L.length := (List.getElem?_eq_some_iff.1 hj).1
    rw [World.ownsRow.cellAt h' j (by simpa using hlt)]
    exact vals_at hj
theorem RowI.len {w : World} {base : Nat} {v : Value} {L : List Int} (h : RowI w base v L) : ∃ (A : Option Addr) (c : Nat), v = .slice A L.length c := by
  rcases h.form with ⟨rfl, rfl⟩ | ⟨g, cap, rfl, _⟩
  · exact ⟨none, 0, rfl⟩
  · exact ⟨_, _, rfl⟩
theorem RowI.lt {w : World} {base : Nat} {v : Value} {L : List Int} (h : RowI w base v L) : ∀ k, v.ownBlock = some k → base ≤ k ∧ k < w.heap.size := fun k hk => by
  have := World.ownsRow.lt h k hk
  exact ⟨this.1, this.2⟩
theorem RowI.only {w w' : World} {base : Nat} {v : Value} {L : List Int} {O : List Nat} (h : RowI w base v L) (ho : Only O w w') (hO : ∀ k, v.ownBlock = some k → k ∉ O) : RowI w' base v L := by
  obtain ⟨h1, ⟨rfl, h2⟩ | ⟨g, cap, cur, rfl, h3, h4, h5, h6, h7, h8⟩⟩ := h
  · exact ⟨h1, Or.inl ⟨rfl, h2⟩⟩
  · exact ⟨h1, Or.inr ⟨g, cap, cur, rfl, h3, ho.keep h4 (hO g rfl), h5, h6, h7, h8⟩⟩
theorem RowI.none {w w' : World} {base : Nat} {v : Value} {L : List Int} (h : RowI w base v L) (ho : Only [] w w') : RowI w' base v L := h.only ho (fun _ _ => by simp)
theorem RowI.base {w : World} {base base' : Nat} {v : Value} {L : List Int} (h : RowI w base v L) (hb : base' ≤ base) : RowI w base' v L := by
  obtain ⟨h1, ⟨rfl, h2⟩ | ⟨g, cap, cur, rfl, h3, h4⟩⟩ := h
  · exact ⟨h1, Or.inl ⟨rfl, h2⟩⟩
  · exact ⟨h1, Or.inr ⟨g, cap, cur, rfl, by omega, h4⟩⟩
theorem rowI_mk {w : World} {b : Nat} {Y : List Value} {L : List Int} (hY : w.heap[b]? = some (.cells Y.toArray 3 (0, 0))) (hl : Y.length = L.length) (hm : L.length ≤ 1048576) (h : ∀ j, j < L.length → Y[j]? = some (.int .i64 (nth L j))) {base : Nat} (hb : base ≤ b) : RowI w base (.slice (some ⟨b, 0, none⟩) L.length L.length) L := by
  have hYL : Y = vals L := by
    apply List.ext_getElem?
    intro j
    by_cases hj : j < L.length
    · rw [h j hj, vals_at (nth_at hj)]
    · rw [List.getElem?_eq_none (by omega), List.getElem?_eq_none (by rw [vals_len]; omega)]
  refine ⟨by rw [vals_len]; omega, Or.inr ⟨b, L.length, Y.toArray, rfl, hb, hY, Nat.le_refl _, by unfold maxLen; omega, by simp; omega, ?_⟩⟩
  rw [hYL, Nat.mul_one]
  simp only
  rw [List.take_of_length_le (by rw [vals_len]; exact Nat.le_refl _)]

/-- What a cut tells. -/
def cutL (L : List Int) (i j : Int) : List Int := (L.drop (spanF L.length i j).1.toNat).take (spanF L.length i j).2.toNat
theorem span_in (n : Nat) (i j : Int) : ∃ a m : Nat, spanF n i j = ((a : Int), (m : Int)) ∧ a + m ≤ n := by
  obtain ⟨F, T, _, _, _, _, h5, h6⟩ := span_eq n i j
  rcases Int.lt_or_le (min T ((n : Int) - 1)) (max F 0) with hq | hq
  · exact ⟨0, 0, h5 hq, Nat.zero_le _⟩
  · refine ⟨(max F 0).toNat, (min T ((n : Int) - 1) - max F 0 + 1).toNat, ?_, by omega⟩
    rw [h6 hq]
    congr 1 <;> omega
theorem cut_all (L : List Int) : cutL L 0 (-1) = L := by
  unfold cutL spanF fromEnd
  simp only [Int.lt_irrefl, if_false]
  rw [if_pos (show (-1 : Int) < 0 by omega)]
  rcases Nat.eq_zero_or_pos L.length with h0 | hp
  · rw [List.length_eq_zero_iff.1 h0]; simp
  · rw [if_neg (by omega)]
    have e1 : (max (0 : Int) 0).toNat = 0 := by omega
    have e2 : (min (-1 + (L.length : Int)) ((L.length : Int) - 1) - max 0 0 + 1).toNat = L.length := by omega
    simp only [e1, e2]
    simp

theorem cut_none {w : World} {d : Value} {n : Nat} (h : LenIs d n w) (hn : n ≤ 1048576) (i j : Int) (hi : inI64 i) (hj : inI64 j) (hz : (spanF n i j).2 = 0) :
    Calls Try.prog 23 #[d, .int .i64 i, .int .i64 j] w fun e w' => e = .returned (.slice none 0 0) ∧ w = w' := by
  have hF := span_any h hn i j hi hj
  rw [hz] at hF
  have hFH := Lib.hid hF
  clear hF h hn hi hj hz
  generalize (spanF n i j).1 = a at *
  go_enter Try.func23, Try.ntmps23
  go_wp2_with (go_at_call 35; ((with_reducible refine (hFH.out).mono ?_); rintro e w' ⟨rfl, rfl⟩))
  all_goals go_ret
  exact ⟨rfl, rfl⟩
theorem copy_new {w : World} {D g N f : Nat} {L : List Int} (h : DQ w D g N f L) (a m : Nat) (ham : a + m ≤ L.length) :
    Calls Try.prog 36 #[.pointer (some ⟨D, 0, none⟩), .slice (some ⟨w.heap.size, 0, none⟩) m m, .int .i64 (a : Int)] (w.alloc (intObj m)) fun e w' => e = .returned (.tuple #[]) ∧ RowI w' w.heap.size (.slice (some ⟨w.heap.size, 0, none⟩) m m) ((L.drop a).take m) ∧ Only [] w w' := by
  obtain ⟨hD, hg⟩ := h.lt
  obtain ⟨s1, s2, s3⟩ := h.sh
  have ho : Only [] w (w.alloc (intObj m)) := (Only.refl _ _).alloc _
  refine (copyTo_any (h.head.keep ho (by simp)) h.sh.zero (h.row.keep ho (by simp)) a m m w.heap.size (Nat.zero_le _) ham (by omega) (List.replicate m (.int .i64 0)) (heap_alloc_new w _) (by simp) (Nat.le_refl _) hg).mono ?_
  rintro e w' ⟨rfl, hb, Y, hY1, hY2, hY3, _⟩
  have hl := part_len L a m ham
  refine ⟨rfl, ?_, ⟨ho.1.trans (hb.mono (Nat.zero_le _)), fun k hk hn => by rw [hb.block k hk]; exact ho.2 k hk hn⟩⟩
  have := rowI_mk (L := (L.drop a).take m) hY1 (by rw [hY2, hl]; simp) (by omega) (fun j hj => by rw [hl] at hj; rw [hY3 j hj, part_at L a m j hj ham]) (Nat.le_refl w.heap.size)
  rw [hl] at this
  exact this
set_option maxHeartbeats 1000000 in
theorem cut_any {w : World} {D g N f : Nat} {L : List Int} (h : DQ w D g N f L) (i j : Int) (hi : inI64 i) (hj : inI64 j) :
    Calls Try.prog 23 #[.pointer (some ⟨D, 0, none⟩), .int .i64 i, .int .i64 j] w fun e w' => ∃ v, e = .returned v ∧ RowI w' w.heap.size v (cutL L i j) ∧ Only [] w w' := by
  obtain ⟨s1, s2, s3⟩ := h.sh
  obtain ⟨a, m, ham, hle⟩ := span_in L.length i j
  unfold cutL
  rw [ham, Int.toNat_natCast, Int.toNat_natCast]
  rcases Nat.eq_zero_or_pos m with rfl | hm
  · refine (cut_none (len_any h.head) (by omega) i j hi hj (by rw [ham]; rfl)).mono ?_
    rintro e w' ⟨rfl, rfl⟩
    exact ⟨_, rfl, by simpa using rowI_nil w w.heap.size, Only.refl _ _⟩
  · have hF := span_any (len_any h.head) (by omega) i j hi hj
    rw [ham] at hF
    have hFH := Lib.hid hF
    have hz : ((m : Int) == 0) = false := beq_false_of_ne (by omega)
    have hmk := fun w => run_ints (m : Int) m rfl (by omega) w
    have hC := Lib.hid (copy_new h a m hle)
    clear hF h hi hj ham hle hm s1 s2 s3
    go_enter Try.func23, Try.ntmps23
    go_wp2_with (first
      | (go_at_call 35; ((with_reducible refine (hFH.out).mono ?_); rintro e w' ⟨rfl, rfl⟩))
      | (go_at_call 36; ((with_reducible refine (hC.out).mono ?_); rintro e w' ⟨rfl, hR, hO⟩; have hRH := Lib.hid hR; have hOH := Lib.hid hO; clear hR hO)))
    all_goals go_ret
    exact ⟨_, rfl, hRH.out, hOH.out⟩
theorem all_any {w : World} {D g N f : Nat} {L : List Int} (h : DQ w D g N f L) :
    Calls Try.prog 25 #[.pointer (some ⟨D, 0, none⟩)] w fun e w' => ∃ v, e = .returned v ∧ RowI w' w.heap.size v L ∧ Only [] w w' := by
  have hC := cut_any h 0 (-1) (by unfold inI64; omega) (by unfold inI64; omega)
  rw [cut_all] at hC
  have hCH := Lib.hid hC
  clear hC h
  go_enter Try.func25, Try.ntmps25
  go_wp2_with (go_at_call 23; ((with_reducible refine (hCH.out).mono ?_); rintro e w' ⟨v, rfl, hR, hO⟩; have hRH := Lib.hid hR; have hOH := Lib.hid hO; clear hR hO))
  all_goals go_ret
  exact ⟨_, rfl, hRH.out, hOH.out⟩
theorem keep_none (w : World) (i j : Int) :
    Calls Try.prog 20 #[.pointer none, .int .i64 i, .int .i64 j] w fun e w' => e = .returned (.tuple #[]) ∧ w = w' := by
  go_enter Try.func20, Try.ntmps20
  go_wp2_with fail
  refine bodyPost_ret (results_none rfl _ _ _) rfl ?_
  exact ⟨rfl, rfl⟩
set_option maxHeartbeats 1000000 in
theorem keep_any {w : World} {D g N f : Nat} {L : List Int} (h : DQ w D g N f L) (i j : Int) (hi : inI64 i) (hj : inI64 j) :
    Calls Try.prog 20 #[.pointer (some ⟨D, 0, none⟩), .int .i64 i, .int .i64 j] w fun e w' => e = .returned (.tuple #[]) ∧ Left w D g (cutL L i j) w' := by
  obtain ⟨s1, s2, s3⟩ := h.sh
  obtain ⟨a, m, ham, hle⟩ := span_in L.length i j
  unfold cutL
  rw [ham, Int.toNat_natCast, Int.toNat_natCast]
  have hF := span_any (len_any h.head) (by omega) i j hi hj
  rw [ham] at hF
  have hS := shorten_lit h a (L.length - a - m) (a : Int) ((L.length : Int) - a - m) rfl (by omega) (by omega)
  rw [show L.length - a - (L.length - a - m) = m by omega] at hS
  have hFH := Lib.hid hF
  have hSH := Lib.hid hS
  obtain ⟨c0, c1, c2, _⟩ := h.head.facts
  have hw1 := wrap_small (x := (L.length : Int) - a) (by omega)
  have hw2 := wrap_small (x := (L.length : Int) - a - m) (by omega)
  clear hF hS h hi hj ham hle s1 s2 s3
  generalize L.length = n at *
  go_enter Try.func20, Try.ntmps20
  go_wp2_with (first
    | (go_at_call 35; ((with_reducible refine (hFH.out).mono ?_); rintro e w' ⟨rfl, rfl⟩))
    | (go_at_call 30; ((with_reducible refine (hSH.out).mono ?_); rintro e w' ⟨rfl, hL⟩; have hLH := Lib.hid hL; clear hL)))
  all_goals go_end0
  exact ⟨rfl, hLH.out⟩

end Go.Proofs.Ytnmcedkinacbpaa
