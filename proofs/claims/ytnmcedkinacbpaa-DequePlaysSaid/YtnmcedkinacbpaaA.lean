/-
  A list with two ends: how it lies in memory; the walks of its small methods. No condition but the sizes that a list's room has.
-/
import Derived.Test.YtnmcedkinacbpaaChecked
import Derived.WalkKit
import Derived.WalkSpells
import Derived.WalkLawsBesides
import Derived.Deep.QuietTactic
import Derived.BigQuiet
import Derived.Lib.Hide
import Derived.Lib.SmallJoins
import Derived.Outline
import Derived.OwnWalk
namespace Go.Proofs.Ytnmcedkinacbpaa
open Go.RowKit

/-- Nothing is written but the blocks of a list, and new ones. -/
def Only (O : List Nat) (w w' : World) : Prop := Below 0 w w' ∧ ∀ k, k < w.heap.size → k ∉ O → w'.heap[k]? = w.heap[k]?
theorem Only.refl (O : List Nat) (w : World) : Only O w w := ⟨Below.refl _ _, fun _ _ _ => rfl⟩
theorem Only.size {O : List Nat} {w w' : World} (h : Only O w w') : w.heap.size ≤ w'.heap.size := h.1.size
theorem Only.trans {O O' : List Nat} {a b c : World} (h : Only O a b) (k : Only O' b c) (hO : ∀ x ∈ O', x ∈ O ∨ a.heap.size ≤ x) : Only O a c := by
  refine ⟨h.1.trans k.1, fun x hx hn => ?_⟩
  have := h.size
  rw [k.2 x (by omega) (fun hm => (hO x hm).elim hn (fun h1 => by omega)), h.2 x hx hn]
theorem Only.set {O : List Nat} {a w : World} (h : Only O a w) {p : Addr} (hp : p.block ∈ O ∨ a.heap.size ≤ p.block) (v : Value) : Only O a (w.setCell p v) := by
  refine ⟨h.1.setCell (Nat.zero_le _) v, fun x hx hn => ?_⟩
  rw [Below.heap_setCell _ _ _ _ (fun e => by subst e; exact hp.elim hn (fun h1 => by omega)), h.2 x hx hn]
theorem Only.row {O : List Nat} {a w : World} (h : Only O a w) {g : Nat} (hp : g ∈ O ∨ a.heap.size ≤ g) (cs : Array Value) : Only O a (w.setRow g cs) := by
  refine ⟨h.1.trans ⟨rfl, rfl, rfl, by simp, fun k hk => absurd hk (Nat.not_lt_zero k)⟩, fun x hx hn => ?_⟩
  rw [setRow_other w g x cs (fun e => by subst e; exact hp.elim hn (fun h1 => by omega)), h.2 x hx hn]
theorem Only.alloc {O : List Nat} {a w : World} (h : Only O a w) (o : Obj) : Only O a (w.alloc o) := by
  have := h.size
  exact ⟨h.1.alloc (Nat.zero_le _) o, fun x hx hn => by rw [Below.heap_alloc _ _ _ (by omega), h.2 x hx hn]⟩
theorem below_drewN {B : Nat} {a w : World} (h : Below B a w) (n : Nat) : Below B a (w.drewN n) := ⟨h.os, h.tape, h.output, h.size, h.block⟩
theorem Only.drewN {O : List Nat} {a w : World} (h : Only O a w) (n : Nat) : Only O a (w.drewN n) := ⟨below_drewN h.1 n, fun x hx hn => h.2 x hx hn⟩
theorem Only.drew {O : List Nat} {a w : World} (h : Only O a w) : Only O a w.drew := ⟨h.1.drew, fun x hx hn => h.2 x hx hn⟩
theorem Only.below {O : List Nat} {w w' : World} {B : Nat} (h : Only O w w') (hB : B ≤ w.heap.size) (hO : ∀ k ∈ O, B ≤ k) : Below B w w' :=
  ⟨h.1.os, h.1.tape, h.1.output, h.1.size, fun k hk => h.2 k (by omega) (fun hm => by have := hO k hm; omega)⟩
theorem some_lt {w : World} {k : Nat} {o : Obj} (hk : w.heap[k]? = some o) : k < w.heap.size := by
  rcases Nat.lt_or_ge k w.heap.size with h1 | h1
  · exact h1
  · rw [Array.getElem?_eq_none h1] at hk; cases hk
theorem Only.keep {O : List Nat} {w w' : World} (h : Only O w w') {k : Nat} {o : Obj} (hk : w.heap[k]? = some o) (hn : k ∉ O) : w'.heap[k]? = some o := by
  rw [h.2 k (some_lt hk) hn, hk]
theorem Only.mono {O O' : List Nat} {w w' : World} (h : Only O w w') (hO : ∀ x ∈ O, x ∈ O') : Only O' w w' := ⟨h.1, fun k hk hn => h.2 k hk (fun hm => hn (hO k hm))⟩

/-- Where in the room a place lies. -/
def rot (N f p : Nat) : Nat := if N ≤ f + p then f + p - N else f + p
/-- What shapes a list's numbers have: its room's size, its first place, how many there are. -/
def Sh (N f n : Nat) : Prop := (f < N ∨ (f = 0 ∧ N = 0)) ∧ n ≤ N ∧ N ≤ 1048576
/-- The head block of a list. -/
def Hd (w : World) (D : Nat) (a : Option Addr) (N f n : Nat) : Prop := w.heap[D]? = some (.cells #[.slice a N N, .int .i64 (f : Int), .int .i64 (n : Int)] 50 (0, 0))
theorem Hd.facts {w : World} {D : Nat} {a : Option Addr} {N f n : Nat} (h : Hd w D a N f n) :
    w.cell? ⟨D, 0, none⟩ = some (.slice a N N) ∧ w.cell? ⟨D, 1, none⟩ = some (.int .i64 (f : Int)) ∧ w.cell? ⟨D, 2, none⟩ = some (.int .i64 (n : Int)) ∧
    w.frozen? ⟨D, 0, none⟩ = false ∧ w.frozen? ⟨D, 1, none⟩ = false ∧ w.frozen? ⟨D, 2, none⟩ = false := by
  unfold Hd at h
  refine ⟨Lib.cell_of_heap h 0, Lib.cell_of_heap h 1, Lib.cell_of_heap h 2, ?_, ?_, ?_⟩ <;> simp [World.frozen?, h]
theorem Hd.drewN {w : World} {D : Nat} {a : Option Addr} {N f n : Nat} (h : Hd w D a N f n) (k : Nat) : Hd (w.drewN k) D a N f n := h

/-- What stands in a row of numbers at a place; 0 behind its end. -/
def nth (L : List Int) (k : Nat) : Int := (L[k]?).getD 0
theorem nth_at {L : List Int} {k : Nat} (h : k < L.length) : L[k]? = some (nth L k) := by
  unfold nth; rw [List.getElem?_eq_getElem h]; rfl
/-- The places from lo on, below hi, of a list's room hold what x tells. -/
def Rg (w : World) (g N f lo hi : Nat) (x : Nat → Int) : Prop := ∃ C : Array Value, w.heap[g]? = some (.cells C 3 (0, 0)) ∧ C.size = N ∧ ∀ k, lo ≤ k → k < hi → C[rot N f k]? = some (.int .i64 (x k))
theorem Rg.drewN {w : World} {g N f lo hi : Nat} {x : Nat → Int} (h : Rg w g N f lo hi x) (k : Nat) : Rg (w.drewN k) g N f lo hi x := h
theorem Rg.keep {w w' : World} {g N f lo hi : Nat} {x : Nat → Int} (h : Rg w g N f lo hi x) {O : List Nat} (ho : Only O w w') (hg : g ∉ O) : Rg w' g N f lo hi x := by
  obtain ⟨C, h1, h2, h3⟩ := h
  exact ⟨C, ho.keep h1 hg, h2, h3⟩
theorem Hd.keep {w w' : World} {D : Nat} {a : Option Addr} {N f n : Nat} (h : Hd w D a N f n) {O : List Nat} (ho : Only O w w') (hg : D ∉ O) : Hd w' D a N f n := ho.keep h hg
theorem Rg.cell {w : World} {g N f lo hi : Nat} {x : Nat → Int} (h : Rg w g N f lo hi x) {k : Nat} (h1 : lo ≤ k) (h2 : k < hi) : w.cell? ⟨g, rot N f k, none⟩ = some (.int .i64 (x k)) ∧ w.frozen? ⟨g, rot N f k, none⟩ = false := by
  obtain ⟨C, c1, c2, c3⟩ := h
  have := c3 k h1 h2
  exact ⟨by simp [World.cell?, c1, this], by simp [World.frozen?, c1]⟩
theorem Rg.free {w : World} {g N f lo hi : Nat} {x : Nat → Int} (h : Rg w g N f lo hi x) {k : Nat} (hs : Sh N f 0) (h2 : k < N) : (∃ v, w.cell? ⟨g, rot N f k, none⟩ = some v) ∧ w.frozen? ⟨g, rot N f k, none⟩ = false := by
  obtain ⟨C, c1, c2, c3⟩ := h
  obtain ⟨s1, _, _⟩ := hs
  have hlt : rot N f k < C.size := by unfold rot; split <;> omega
  exact ⟨⟨C[rot N f k], by simp [World.cell?, c1, hlt]⟩, by simp [World.frozen?, c1]⟩

/-- A list lies in memory. -/
structure DQ (w : World) (D g N f : Nat) (L : List Int) : Prop where
  head : Hd w D (some ⟨g, 0, none⟩) N f L.length
  row : Rg w g N f 0 L.length (nth L)
  sh : Sh N f L.length
  ne : D ≠ g
theorem DQ.keep {w w' : World} {D g N f : Nat} {L : List Int} (h : DQ w D g N f L) {O : List Nat} (ho : Only O w w') (hD : D ∉ O) (hg : g ∉ O) : DQ w' D g N f L :=
  ⟨h.head.keep ho hD, h.row.keep ho hg, h.sh, h.ne⟩
theorem DQ.drewN {w : World} {D g N f : Nat} {L : List Int} (h : DQ w D g N f L) (k : Nat) : DQ (w.drewN k) D g N f L := ⟨h.head, h.row, h.sh, h.ne⟩
theorem DQ.lt {w : World} {D g N f : Nat} {L : List Int} (h : DQ w D g N f L) : D < w.heap.size ∧ g < w.heap.size := by
  obtain ⟨C, c1, _⟩ := h.row
  exact ⟨some_lt h.head, some_lt c1⟩

theorem wrap_small {x : Int} (h : -9223372036854775808 ≤ x ∧ x ≤ 9223372036854775807) : IntKind.i64.wrap x = x := IntWalk.i64_in _ h
theorem ret_int {x y : Int} (h : x = y) : Ending.returned (.int .i64 x) = .returned (.int .i64 y) := by rw [h]
theorem ret_bool {x y : Bool} (h : x = y) : Ending.returned (.bool x) = .returned (.bool y) := by rw [h]

theorem round_any {w : World} {D : Nat} {a : Option Addr} {N f n : Nat} (h : Hd w D a N f n) (hs : Sh N f 0) (p : Nat) (hp : p ≤ N) :
    Calls Try.prog 27 #[.pointer (some ⟨D, 0, none⟩), .int .i64 (p : Int)] w fun e w' => e = .returned (.int .i64 (rot N f p : Nat)) ∧ w = w' := by
  obtain ⟨c0, c1, c2, _⟩ := h.facts
  obtain ⟨s1, _, s3⟩ := hs
  clear h
  have hw := wrap_small (x := (f : Int) + p) (by omega)
  go_enter Try.func27, Try.ntmps27
  go_wp2
  all_goals go_ret
  all_goals exact ⟨ret_int (by unfold rot; split <;> omega), rfl⟩

theorem end_any {w : World} {D : Nat} {a : Option Addr} {N f n : Nat} (h : Hd w D a N f n) (hn : n ≤ 1048576) (front : Bool) :
    Calls Try.prog 29 #[.pointer (some ⟨D, 0, none⟩), .bool front] w fun e w' => e = .returned (.int .i64 (if front then 0 else (n : Int) - 1)) ∧ w = w' := by
  obtain ⟨c0, c1, c2, _⟩ := h.facts
  clear h
  cases front <;> go_enter Try.func29, Try.ntmps29
  all_goals go_wp2
  all_goals go_ret
  all_goals exact ⟨ret_int (by simp), rfl⟩

theorem len_any {w : World} {D : Nat} {a : Option Addr} {N f n : Nat} (h : Hd w D a N f n) :
    Calls Try.prog 24 #[.pointer (some ⟨D, 0, none⟩)] w fun e w' => e = .returned (.int .i64 (n : Int)) ∧ w = w' := by
  obtain ⟨c0, c1, c2, _⟩ := h.facts
  clear h
  go_enter Try.func24, Try.ntmps24
  go_wp2
  all_goals go_ret
  all_goals simp
theorem len_nil (w : World) :
    Calls Try.prog 24 #[.pointer none] w fun e w' => e = .returned (.int .i64 ((0 : Nat) : Int)) ∧ w = w' := by
  go_enter Try.func24, Try.ntmps24
  go_wp2
  all_goals go_ret
  all_goals simp

/-- Len of what is pointed to is n. -/
def LenIs (d : Value) (n : Nat) (w : World) : Prop := Calls Try.prog 24 #[d] w fun e w' => e = .returned (.int .i64 (n : Int)) ∧ w = w'

theorem near_any {w : World} {d : Value} {n : Nat} (h : LenIs d n w) (hn : n ≤ 1048576) (i : Int) (h0 : 0 ≤ i) (h1 : i ≤ n) :
    Calls Try.prog 33 #[d, .int .i64 i] w fun e w' => e = .returned (.bool (decide (i < n - i))) ∧ w = w' := by
  unfold LenIs at h
  have hl := Lib.hid h
  clear h
  have hw := wrap_small (x := (n : Int) - i) (by omega)
  go_enter Try.func33, Try.ntmps33
  go_wp2_with (go_at_call 24; ((with_reducible refine (hl.out).mono ?_); rintro e w' ⟨rfl, rfl⟩))
  all_goals go_ret
  all_goals simp

/-- A place told from 0 on. -/
def fromEnd (n : Nat) (i : Int) : Int := if i < 0 then i + n else i
def inI64 (n : Int) : Prop := -9223372036854775808 ≤ n ∧ n ≤ 9223372036854775807
theorem find_any {w : World} {d : Value} {n : Nat} (h : LenIs d n w) (hn : n ≤ 1048576) (i : Int) (hi : inI64 i) :
    Calls Try.prog 31 #[d, .int .i64 i] w fun e w' => e = .returned (.tuple #[.int .i64 (fromEnd n i), .bool (decide (0 ≤ fromEnd n i ∧ fromEnd n i < n))]) ∧ w = w' := by
  unfold LenIs at h
  have hl := Lib.hid h
  clear h
  unfold inI64 at hi
  obtain ⟨hi0, hi1⟩ := hi
  unfold fromEnd
  by_cases hneg : i < 0
  · have hw := wrap_small (x := i + n) (by omega)
    by_cases h0 : 0 ≤ i + n
    · go_enter Try.func31, Try.ntmps31
      go_wp2_with (go_at_call 24; ((with_reducible refine (hl.out).mono ?_); rintro e w' ⟨rfl, rfl⟩))
      all_goals go_ret2
      all_goals (simp <;> omega)
    · go_enter Try.func31, Try.ntmps31
      go_wp2_with (go_at_call 24; ((with_reducible refine (hl.out).mono ?_); rintro e w' ⟨rfl, rfl⟩))
      all_goals go_ret2
      all_goals (simp <;> omega)
  · go_enter Try.func31, Try.ntmps31
    go_wp2_with (go_at_call 24; ((with_reducible refine (hl.out).mono ?_); rintro e w' ⟨rfl, rfl⟩))
    all_goals go_ret2
    all_goals (simp <;> omega)

/-- Which places a cut tells: the first one, and how many. -/
def spanF (n : Nat) (i j : Int) : Int × Int :=
  if max (fromEnd n i) 0 > min (fromEnd n j) ((n : Int) - 1) then (0, 0) else (max (fromEnd n i) 0, min (fromEnd n j) ((n : Int) - 1) - max (fromEnd n i) 0 + 1)
theorem ret_two {a b c d : Int} (h : a = c) (k : b = d) : Ending.returned (.tuple #[.int .i64 a, .int .i64 b]) = .returned (.tuple #[.int .i64 c, .int .i64 d]) := by rw [h, k]
/-- The two numbers, however they are come by. -/
def SpanIs (n : Nat) (i j : Int) : Prop := ∃ F T : Int, (i < 0 → F = i + n) ∧ (¬ i < 0 → F = i) ∧ (j < 0 → T = j + n) ∧ (¬ j < 0 → T = j) ∧ (min T ((n : Int) - 1) < max F 0 → spanF n i j = (0, 0)) ∧ (max F 0 ≤ min T ((n : Int) - 1) → spanF n i j = (max F 0, min T ((n : Int) - 1) - max F 0 + 1))
theorem span_eq (n : Nat) (i j : Int) : SpanIs n i j := by
  refine ⟨fromEnd n i, fromEnd n j, fun h => by simp [fromEnd, h], fun h => by simp [fromEnd, h], fun h => by simp [fromEnd, h], fun h => by simp [fromEnd, h], fun h => by unfold spanF; rw [if_pos h], fun h => by unfold spanF; rw [if_neg (by omega)]⟩
theorem span_fst {n : Nat} {i j x : Int} (h : SpanIs n i j) (k : ∀ F T : Int, (i < 0 → F = i + n) → (¬ i < 0 → F = i) → (j < 0 → T = j + n) → (¬ j < 0 → T = j) → (min T ((n : Int) - 1) < max F 0 → x = 0) ∧ (max F 0 ≤ min T ((n : Int) - 1) → x = max F 0)) : x = (spanF n i j).1 := by
  obtain ⟨F, T, h1, h2, h3, h4, h5, h6⟩ := h
  obtain ⟨k1, k2⟩ := k F T h1 h2 h3 h4
  rcases Int.lt_or_le (min T ((n : Int) - 1)) (max F 0) with hq | hq
  · rw [h5 hq, k1 hq]
  · rw [h6 hq, k2 hq]
theorem span_snd {n : Nat} {i j x : Int} (h : SpanIs n i j) (k : ∀ F T : Int, (i < 0 → F = i + n) → (¬ i < 0 → F = i) → (j < 0 → T = j + n) → (¬ j < 0 → T = j) → (min T ((n : Int) - 1) < max F 0 → x = 0) ∧ (max F 0 ≤ min T ((n : Int) - 1) → x = min T ((n : Int) - 1) - max F 0 + 1)) : x = (spanF n i j).2 := by
  obtain ⟨F, T, h1, h2, h3, h4, h5, h6⟩ := h
  obtain ⟨k1, k2⟩ := k F T h1 h2 h3 h4
  rcases Int.lt_or_le (min T ((n : Int) - 1)) (max F 0) with hq | hq
  · rw [h5 hq, k1 hq]
  · rw [h6 hq, k2 hq]
set_option maxHeartbeats 1000000 in
theorem span_any {w : World} {d : Value} {n : Nat} (h : LenIs d n w) (hn : n ≤ 1048576) (i j : Int) (hi : inI64 i) (hj : inI64 j) :
    Calls Try.prog 35 #[d, .int .i64 i, .int .i64 j] w fun e w' => e = .returned (.tuple #[.int .i64 (spanF n i j).1, .int .i64 (spanF n i j).2]) ∧ w = w' := by
  unfold LenIs at h
  have hl := Lib.hid h
  clear h
  unfold inI64 at hi hj
  obtain ⟨hi0, hi1⟩ := hi
  obtain ⟨hj0, hj1⟩ := hj
  have hsp := Lib.hid (span_eq n i j)
  have hn1 := wrap_small (x := (n : Int) - 1) (by omega)
  by_cases hneg : i < 0 <;> by_cases hneg2 : j < 0
  · have hw := wrap_small (x := i + n) (by omega)
    have hv := wrap_small (x := j + n) (by omega)
    go_enter Try.func35, Try.ntmps35
    go_wp2_with (go_at_call 24; ((with_reducible refine (hl.out).mono ?_); rintro e w' ⟨rfl, rfl⟩))
    all_goals go_ret2
    all_goals exact ⟨ret_two (span_fst hsp.out (fun F T hF1 hF2 hT1 hT2 => ⟨fun _ => by omega, fun _ => by omega⟩)) (span_snd hsp.out (fun F T hF1 hF2 hT1 hT2 => ⟨fun _ => by omega, fun _ => by omega⟩)), rfl⟩
  · have hw := wrap_small (x := i + n) (by omega)
    go_enter Try.func35, Try.ntmps35
    go_wp2_with (go_at_call 24; ((with_reducible refine (hl.out).mono ?_); rintro e w' ⟨rfl, rfl⟩))
    all_goals go_ret2
    all_goals exact ⟨ret_two (span_fst hsp.out (fun F T hF1 hF2 hT1 hT2 => ⟨fun _ => by omega, fun _ => by omega⟩)) (span_snd hsp.out (fun F T hF1 hF2 hT1 hT2 => ⟨fun _ => by omega, fun _ => by omega⟩)), rfl⟩
  · have hv := wrap_small (x := j + n) (by omega)
    go_enter Try.func35, Try.ntmps35
    go_wp2_with (go_at_call 24; ((with_reducible refine (hl.out).mono ?_); rintro e w' ⟨rfl, rfl⟩))
    all_goals go_ret2
    all_goals exact ⟨ret_two (span_fst hsp.out (fun F T hF1 hF2 hT1 hT2 => ⟨fun _ => by omega, fun _ => by omega⟩)) (span_snd hsp.out (fun F T hF1 hF2 hT1 hT2 => ⟨fun _ => by omega, fun _ => by omega⟩)), rfl⟩
  · go_enter Try.func35, Try.ntmps35
    go_wp2_with (go_at_call 24; ((with_reducible refine (hl.out).mono ?_); rintro e w' ⟨rfl, rfl⟩))
    all_goals go_ret2
    all_goals exact ⟨ret_two (span_fst hsp.out (fun F T hF1 hF2 hT1 hT2 => ⟨fun _ => by omega, fun _ => by omega⟩)) (span_snd hsp.out (fun F T hF1 hF2 hT1 hT2 => ⟨fun _ => by omega, fun _ => by omega⟩)), rfl⟩

end Go.Proofs.Ytnmcedkinacbpaa
