/-
  The walks of the program's unit.wrong, and of what asks it of all commands. Premises: the rows lie in memory, and their lengths are Go's own.
-/
import Derived.Test.YtjidopgohdlfdaaGreatDoorJD
import Derived.Test.YtjidopgohdlfdaaGreatDoorJB
import Derived.Test.YtjidopgohdlfdaaGreatDoorQM
import Derived.OwnWalk
import Derived.Test.YtjidopgohdlfdaaGreatDoorJA
import Derived.Test.YtjidopgohdlfdaaGreatDoorJE


namespace Go.Proofs.YtjidopgohdlfdaaGreatDoor
open Go.RowKit Dec Pq S4 Un

theorem ulong_any (x : ByteArray) (w : World) (b : Bool) (hb : Hid (decide (1048576 < x.size) = b)) :
    Calls Tryz.prog 49 #[.string x] w fun e w' => e = .returned (.bool b) ∧ w = w' := by
  go_enter Tryz.func49, Tryz.ntmps49
  go_wp2_with fail
  go_ret
  have h1 : decide ((1048576 : Int) < (x.size : Int)) = decide (1048576 < x.size) := by rw [decide_eq_decide]; omega
  exact ⟨by rw [← hb.out, ← h1]; rfl, rfl⟩
set_option maxHeartbeats 2000000 in
theorem uindex_any (A : Option Addr) (cap : Nat) (ss : List ByteArray) (w : World) (hn : ss.length ≤ 1000000) (hr : SOk w Tr A ss) :
    Calls Tryz.prog 65 #[.slice A ss.length cap, .func (.func 49) #[] #[]] w fun e w' => (∃ r : Int, e = .returned (.int .i64 r) ∧ (decide (0 ≤ r) = ss.any fun x => decide (1048576 < x.size))) ∧ w = w' := by
  have hrH := Lib.hid hr
  clear hr
  go_enter Tryz.func65, Tryz.ntmps65
  go_wp2_with fail
  go_loop [8] (fun i => ∃ k : Nat, i = .int .i64 k ∧ k ≤ ss.length ∧ Hid (∀ x ∈ ss.take k, ¬ 1048576 < x.size)) (fun i => ss.length - (intOf i).toNat)
  case atStart => exact ⟨0, rfl, by omega, Lib.hid (fun x h => by simp at h)⟩
  case round =>
    obtain ⟨k, rfl, hk, hA⟩ := hrel
    by_cases hlt : k < ss.length
    · obtain ⟨x, hx⟩ : ∃ x, ss[k]? = some x := ⟨_, List.getElem?_eq_getElem hlt⟩
      obtain ⟨a, rfl, _, _, hcell⟩ := hrH.out k x hx
      cases hb : decide (1048576 < x.size) with
      | true =>
        have hC := Lib.hid (ulong_any x w true (Lib.hid hb))
        have hR : Hid (ss.any (fun x => decide (1048576 < x.size)) = true) := Lib.hid (List.any_eq_true.2 ⟨x, List.mem_of_getElem? hx, hb⟩)
        clear hx hb
        go_wp2_with (go_at_call 49; ((with_reducible refine hC.out.mono ?_); rintro e w' ⟨rfl, rfl⟩))
        go_ret
        exact ⟨⟨_, rfl, by rw [hR.out]; simp⟩, rfl⟩
      | false =>
        have hC := Lib.hid (ulong_any x w false (Lib.hid hb))
        have hA2 : Hid (∀ y ∈ ss.take (k + 1), ¬ 1048576 < y.size) := Lib.hid (by
          intro y hy
          rw [List.take_add_one, hx] at hy
          rcases List.mem_append.1 hy with h | h
          · exact hA.out y h
          · simp at h; subst h; simpa using hb)
        clear hx hb
        go_wp2_with (go_at_call 49; ((with_reducible refine hC.out.mono ?_); rintro e w' ⟨rfl, rfl⟩))
        go_round
        case rel => exact ⟨k + 1, by go_num, by omega, hA2⟩
        case measure => simp [intOf]; omega
    · have hR : Hid (ss.any (fun x => decide (1048576 < x.size)) = false) := Lib.hid (by
        rw [List.any_eq_false]
        intro y hy
        have := hA.out y (by rw [List.take_of_length_le (by omega)]; exact hy)
        simpa using this)
      go_wp2_with fail
      go_ret
      exact ⟨⟨_, rfl, by rw [hR.out]; rfl⟩, rfl⟩
theorem ucontains_any (A : Option Addr) (cap : Nat) (ss : List ByteArray) (w : World) (hn : ss.length ≤ 1000000) (hr : SOk w Tr A ss) (b : Bool) (hb : Hid ((ss.any fun x => decide (1048576 < x.size)) = b)) :
    Calls Tryz.prog 50 #[.slice A ss.length cap, .func (.func 49) #[] #[]] w fun e w' => e = .returned (.bool b) ∧ w = w' := by
  have hI := Lib.hid (uindex_any A cap ss w hn hr)
  clear hr
  go_enter Tryz.func50, Tryz.ntmps50
  go_wp2_with (go_at_call 65; ((with_reducible refine hI.out.mono ?_); rintro e w' ⟨⟨r, rfl, hr⟩, rfl⟩))
  go_ret
  exact ⟨by rw [← hb.out, ← hr]; simp, rfl⟩
theorem mayC_any {ss : List ByteArray} (h1 : 1 ≤ ss.length) (h2 : ss.length ≤ 65536) : (ss.any fun x => decide (1048576 < x.size)) = !mayC ss := by
  unfold mayC
  rw [decide_eq_true h1, decide_eq_true h2, Bool.true_and, Bool.true_and, List.not_all_eq_any_not]
  congr 1
  funext x
  by_cases h : 1048576 < x.size
  · rw [decide_eq_true h, decide_eq_false (by omega)]; rfl
  · rw [decide_eq_false h, decide_eq_true (by omega)]; rfl
set_option maxHeartbeats 2000000 in
theorem wrong_any (A : Option Addr) (cap : Nat) (ss : List ByteArray) (w : World) (hn : ss.length ≤ 140737488355328) (hr : SOk w Tr A ss) (b : Bool) (hb : Hid ((!mayC ss) = b)) :
    Calls Tryz.prog 34 #[.slice A ss.length cap] w fun e w' => e = .returned (.bool b) ∧ w = w' := by
  by_cases h0 : ss.length < 1
  · have d1 : ((ss.length : Int) == 0) = true := by rw [beq_iff_eq]; omega
    have hb' : Hid (true = b) := Lib.hid (by rw [← hb.out]; unfold mayC; rw [decide_eq_false (by omega)]; rfl)
    clear hb h0 hr
    go_enter Tryz.func34, Tryz.ntmps34
    go_wp2_with fail
    go_ret
    exact ⟨by rw [← hb'.out]; rfl, rfl⟩
  by_cases h2 : 65536 < ss.length
  · have d1 : ((ss.length : Int) == 0) = false := by rw [beq_eq_false_iff_ne]; omega
    have d3 : decide ((65536 : Int) < (ss.length : Int)) = true := decide_eq_true (by omega)
    have d4 : decide (65536 < ss.length) = true := decide_eq_true h2
    have hb' : Hid (true = b) := Lib.hid (by rw [← hb.out]; unfold mayC; rw [decide_eq_false (p := ss.length ≤ 65536) (by omega), Bool.and_false]; rfl)
    clear hb h0 h2 hr
    go_enter Tryz.func34, Tryz.ntmps34
    go_wp2_with fail
    go_ret
    exact ⟨by rw [← hb'.out]; rfl, rfl⟩
  have hC := Lib.hid (ucontains_any A cap ss w (by omega) hr b (Lib.hid (by rw [mayC_any (by omega) (by omega)]; exact hb.out)))
  have d1 : ((ss.length : Int) == 0) = false := by rw [beq_eq_false_iff_ne]; omega
  have d3 : decide ((65536 : Int) < (ss.length : Int)) = false := decide_eq_false (by omega)
  have d4 : decide (65536 < ss.length) = false := decide_eq_false h2
  clear hb h0 h2 hr
  go_enter Tryz.func34, Tryz.ntmps34
  go_wp2_with (go_at_call 50; ((with_reducible refine hC.out.mono ?_); rintro e w' ⟨rfl, rfl⟩))
  go_ret
  exact ⟨rfl, rfl⟩
set_option maxHeartbeats 2000000 in
theorem uindexC_any {w : World} {A : Option Addr} {cap : Nat} {u : UM} (h : CmdsAt w A u) (hl : u.length ≤ 140737488355328) (hs : ∀ ss ∈ u, ss.length ≤ 140737488355328) :
    Calls Tryz.prog 48 #[.slice A u.length cap, .func (.func 34) #[] #[]] w fun e w' => (∃ r : Int, e = .returned (.int .i64 r) ∧ (decide (0 ≤ r) = u.any fun ss => !mayC ss)) ∧ w = w' := by
  have hrH := Lib.hid h
  have hsH := Lib.hid hs
  clear h hs
  go_enter Tryz.func48, Tryz.ntmps48
  go_wp2_with fail
  go_loop [8] (fun i => ∃ k : Nat, i = .int .i64 k ∧ k ≤ u.length ∧ Hid (∀ ss ∈ u.take k, (!mayC ss) = false)) (fun i => u.length - (intOf i).toNat)
  case atStart => exact ⟨0, rfl, by omega, Lib.hid (fun x h => by simp at h)⟩
  case round =>
    obtain ⟨k, rfl, hk, hA⟩ := hrel
    by_cases hlt : k < u.length
    · obtain ⟨ss, hx⟩ : ∃ x, u[k]? = some x := ⟨_, List.getElem?_eq_getElem hlt⟩
      obtain ⟨a, rfl, hal, Ai, ci, hcell, hS⟩ := hrH.out k ss hx
      have hix := run_ixC a k u.length cap hlt
      have dk : decide ((k : Int) < (u.length : Int)) = true := decide_eq_true (by omega)
      have dk2 : decide (k < u.length) = true := decide_eq_true hlt
      have hltH := Lib.hid hlt
      cases hb : !mayC ss with
      | true =>
        have hC := Lib.hid (wrong_any Ai ci ss w (hsH.out ss (List.mem_of_getElem? hx)) hS true (Lib.hid hb))
        have hR : Hid (u.any (fun ss => !mayC ss) = true) := Lib.hid (List.any_eq_true.2 ⟨ss, List.mem_of_getElem? hx, hb⟩)
        clear hx hb hS hlt
        go_wp2_with (go_at_call 34; ((with_reducible refine hC.out.mono ?_); rintro e w' ⟨rfl, rfl⟩))
        go_ret
        exact ⟨⟨_, rfl, by rw [hR.out]; simp⟩, rfl⟩
      | false =>
        have hC := Lib.hid (wrong_any Ai ci ss w (hsH.out ss (List.mem_of_getElem? hx)) hS false (Lib.hid hb))
        have hA2 : Hid (∀ y ∈ u.take (k + 1), (!mayC y) = false) := Lib.hid (by
          intro y hy
          rw [List.take_add_one, hx] at hy
          rcases List.mem_append.1 hy with h | h
          · exact hA.out y h
          · simp at h; subst h; exact hb)
        clear hx hb hS hlt
        go_wp2_with (go_at_call 34; ((with_reducible refine hC.out.mono ?_); rintro e w' ⟨rfl, rfl⟩))
        go_round
        case rel => exact ⟨k + 1, by go_num, by have := hltH.out; omega, hA2⟩
        case measure => have := hltH.out; simp [intOf]; omega
    · have hR : Hid (u.any (fun ss => !mayC ss) = false) := Lib.hid (by
        rw [List.any_eq_false]
        intro y hy
        have := hA.out y (by rw [List.take_of_length_le (by omega)]; exact hy)
        simpa using this)
      have dk : decide ((k : Int) < (u.length : Int)) = false := decide_eq_false (by omega)
      have dk2 : decide (k < u.length) = false := decide_eq_false hlt
      clear hlt
      go_wp2_with fail
      go_ret
      exact ⟨⟨_, rfl, by rw [hR.out]; rfl⟩, rfl⟩
theorem ucontainsC_any {w : World} {A : Option Addr} {cap : Nat} {u : UM} (h : CmdsAt w A u) (hl : u.length ≤ 140737488355328) (hs : ∀ ss ∈ u, ss.length ≤ 140737488355328) (b : Bool) (hb : Hid ((u.any fun ss => !mayC ss) = b)) :
    Calls Tryz.prog 33 #[.slice A u.length cap, .func (.func 34) #[] #[]] w fun e w' => e = .returned (.bool b) ∧ w = w' := by
  have hI := Lib.hid (uindexC_any (cap := cap) h hl hs)
  clear h hs
  go_enter Tryz.func33, Tryz.ntmps33
  go_wp2_with (go_at_call 48; ((with_reducible refine hI.out.mono ?_); rintro e w' ⟨⟨r, rfl, hr⟩, rfl⟩))
  go_ret
  exact ⟨by rw [← hb.out, ← hr]; simp, rfl⟩
end Go.Proofs.YtjidopgohdlfdaaGreatDoor

/-
  The walk of the program's unit.load. Premises: the commands lie in memory, their lengths are Go's own; the library's table of powers of ten holds what its initialiser lays.
-/
namespace Go.Proofs.YtjidopgohdlfdaaGreatDoor
open Go.RowKit Dec Pq S4 Un

set_option maxHeartbeats 2000000 in
theorem above_any (A : Option Addr) (cap : Nat) (ss : List ByteArray) (room : Nat) (w : World) (hn : ss.length ≤ 1000000) (hroom : room ≤ 4194304) (hz : ∀ x ∈ ss, x.size ≤ 1048576) (hr : SOk w Tr A ss) (b : Bool) (hb : Hid (decide (room < sz ss) = b)) :
    Calls Tryz.prog 35 #[.slice A ss.length cap, .int .i64 (room : Int)] w fun e w' => e = .returned (.bool b) ∧ w = w' := by
  have hrH := Lib.hid hr
  have hzH := Lib.hid hz
  clear hr hz
  go_enter Tryz.func35, Tryz.ntmps35
  go_wp2_with fail
  go_loop [1, 9] (fun r i => ∃ k m : Nat, i = .int .i64 k ∧ r = .int .i64 (m : Int) ∧ m ≤ 4194304 ∧ k ≤ ss.length ∧ Hid (room = m + sz (ss.take k))) (fun _ i => ss.length - (intOf i).toNat)
  case atStart => exact ⟨0, room, rfl, rfl, hroom, by omega, Lib.hid (by simp [sz])⟩
  case round =>
    obtain ⟨k, m, rfl, rfl, hm, hk, hA⟩ := hrel
    by_cases hlt : k < ss.length
    · obtain ⟨x, hx⟩ : ∃ x, ss[k]? = some x := ⟨_, List.getElem?_eq_getElem hlt⟩
      obtain ⟨a, rfl, _, _, hcell⟩ := hrH.out k x hx
      have hxs := hzH.out x (List.mem_of_getElem? hx)
      have hnx := Lib.hid (sz_next hx)
      clear hx
      by_cases hbig : m < x.size
      · have hR : Hid (b = true) := Lib.hid (by
          rw [← hb.out]
          have h1 := hA.out; have h2 := hnx.out; have h3 := sz_take ss (k + 1)
          exact decide_eq_true (by omega))
        have d1 : decide ((m : Int) - (x.size : Int) < 0) = true := decide_eq_true (by omega)
        have wk := IntWalk.i64_in ((m : Int) - (x.size : Int)) (by omega)
        clear hbig
        go_wp2_with fail
        go_ret
        exact ⟨by rw [hR.out]; rfl, rfl⟩
      · have d1 : decide ((m : Int) - (x.size : Int) < 0) = false := decide_eq_false (by omega)
        obtain ⟨q, hq⟩ : ∃ q : Nat, q = m - x.size := ⟨_, rfl⟩
        have hqi : (m : Int) - (x.size : Int) = (q : Int) := by omega
        have d2 : decide ((q : Int) < 0) = false := decide_eq_false (by omega)
        have hA2 : Hid (room = q + sz (ss.take (k + 1))) := Lib.hid (by have h1 := hA.out; have h2 := hnx.out; omega)
        have wk := IntWalk.i64_in ((m : Int) - (x.size : Int)) (by omega)
        have hq2 : q ≤ 4194304 := by omega
        have hqH := Lib.hid hqi
        clear hbig hq hqi
        go_wp2_with fail
        go_round
        case rel => exact ⟨k + 1, q, by go_num, by rw [← hqH.out], hq2, by omega, hA2⟩
        case measure => simp [intOf]; omega
    · have hR : Hid (b = false) := Lib.hid (by
        rw [← hb.out]
        have h1 := hA.out
        rw [List.take_of_length_le (by omega)] at h1
        exact decide_eq_false (by omega))
      go_wp2_with fail
      go_ret
      exact ⟨by rw [hR.out]; rfl, rfl⟩
theorem blen_any {w0 W : World} {b : Nat} {l : List UInt8} (h : BS w0 b l W) : Calls Tryz.prog 36 #[.pointer (some ⟨b, 0, none⟩)] W fun e w' => e = .returned (.int .i64 (l.length : Int)) ∧ W = w' := by
  obtain ⟨p, v, hv, hn⟩ : ∃ p v, W.heap[b]? = some (.cells #[p, v] 74 (0, 0)) ∧ ((v = .slice none 0 0 ∧ l.length = 0) ∨ ∃ g cap, v = .slice (some ⟨g, 0, none⟩) l.length cap) := by
    rcases h.bd with ⟨_, v, hb, hown, _⟩ | ⟨_, v, hb, hown, _⟩
    all_goals (
      refine ⟨_, v, hb, ?_⟩
      rcases hown.2 with ⟨h1, h2⟩ | ⟨g, cap, _, _, h1, _⟩
      · rw [Lib.byteCells_length] at h2; exact Or.inl ⟨h1, h2⟩
      · rw [Lib.byteCells_length] at h1; exact Or.inr ⟨g, cap, h1⟩)
  have hc : W.cell? ⟨b, 1, none⟩ = some v := Lib.cell_of_heap hv 1
  clear hv h
  rcases hn with ⟨rfl, h0⟩ | ⟨g, cap, rfl⟩
  · rw [h0]
    clear h0
    go_enter Tryz.func36, Tryz.ntmps36
    go_wp2_with fail
    go_ret
    exact ⟨rfl, rfl⟩
  · go_enter Tryz.func36, Tryz.ntmps36
    go_wp2_with fail
    go_ret
    exact ⟨rfl, rfl⟩
theorem sz_put (ss : List ByteArray) : sz ss ≤ (putF (txt ss)).length := by
  have key : ∀ (l : List ByteArray), sz l ≤ ((txt l).flatMap putA).length := by
    intro l
    induction l with
    | nil => exact Nat.zero_le _
    | cons a l ih =>
      unfold sz at *
      unfold txt at *
      simp only [List.map_cons, List.flatMap_cons, List.length_append, List.sum_cons, putA_len, size_len]
      omega
  have := key ss
  unfold putF
  simp only [List.length_cons, List.length_append]
  omega
/-- What load tells: a fault, or the commands' bytes. -/
def loadR (u : UM) : Sum Int (List UInt8) := if mayB u = false then .inl 1 else if 4194304 < (loadU (uu u)).length then .inl 6 else .inr (loadU (uu u))
theorem any_may {u : UM} (h1 : 1 ≤ u.length) (h2 : u.length ≤ 4096) : (u.any fun ss => !mayC ss) = !mayB u := by
  unfold mayB
  rw [decide_eq_true h1, decide_eq_true h2, Bool.true_and, Bool.true_and, List.not_all_eq_any_not]
set_option maxRecDepth 100000 in
set_option maxHeartbeats 4000000 in
theorem load_bad {w : World} {A : Option Addr} {c : Nat} {u : UM} (h : CmdsAt w A u) (hu : OkL u) (hm : mayB u = false) :
    Calls Tryz.prog 20 #[.slice A u.length c] w fun e w' => PutEnd (loadR u) e ∧ Below w.heap.size w w' := by
  have hR : Hid (loadR u = .inl 1) := Lib.hid (by unfold loadR; rw [if_pos hm])
  rw [hR.out]
  by_cases h0 : u.length < 1
  · have d1 : ((u.length : Int) == 0) = true := by rw [beq_iff_eq]; omega
    clear h0 h hu hm hR
    go_enter Tryz.func20, Tryz.ntmps20
    go_wp2_with fail
    go_ret2
    exact ⟨rfl, Below.refl _ _⟩
  by_cases h2 : 4096 < u.length
  · have d1 : ((u.length : Int) == 0) = false := by rw [beq_eq_false_iff_ne]; omega
    have d3 : decide ((4096 : Int) < (u.length : Int)) = true := decide_eq_true (by omega)
    have d4 : decide (4096 < u.length) = true := decide_eq_true h2
    clear h0 h2 h hu hm hR
    go_enter Tryz.func20, Tryz.ntmps20
    go_wp2_with fail
    go_ret2
    exact ⟨rfl, Below.refl _ _⟩
  have hC := Lib.hid (ucontainsC_any (cap := c) h hu.1 hu.2 true (Lib.hid (by rw [any_may (by omega) (by omega), hm]; rfl)))
  have d1 : ((u.length : Int) == 0) = false := by rw [beq_eq_false_iff_ne]; omega
  have d3 : decide ((4096 : Int) < (u.length : Int)) = false := decide_eq_false (by omega)
  have d4 : decide (4096 < u.length) = false := decide_eq_false h2
  clear h0 h2 h hu hm hR
  go_enter Tryz.func20, Tryz.ntmps20
  go_wp2_with (go_at_call 33; ((with_reducible refine hC.out.mono ?_); rintro e w' ⟨rfl, rfl⟩))
  go_ret2
  exact ⟨rfl, Below.refl _ _⟩
set_option maxRecDepth 100000 in
set_option maxHeartbeats 4000000 in
theorem load_good {w : World} {A : Option Addr} {c : Nat} {u : UM} (h : CmdsAt w A u) (hu : OkL u) (hm : mayB u = true) (hT : Tab w) :
    Calls Tryz.prog 20 #[.slice A u.length c] w fun e w' => PutEnd (loadR u) e ∧ Below w.heap.size w w' := by
  have hR : Hid (loadR u = if 4194304 < (loadU (uu u)).length then .inl 6 else .inr (loadU (uu u))) := Lib.hid (by unfold loadR; rw [if_neg (by rw [hm]; decide)])
  have hmm := hm
  unfold mayB at hmm
  rw [Bool.and_eq_true, Bool.and_eq_true, List.all_eq_true] at hmm
  have hl := of_decide_eq_true hmm.1.2
  have hl1 := of_decide_eq_true hmm.1.1
  have hmH := Lib.hid hmm.2
  have hC := Lib.hid (ucontainsC_any (cap := c) h hu.1 hu.2 false (Lib.hid (by rw [any_may (by omega) (by omega), hm]; rfl)))
  have d1 : ((u.length : Int) == 0) = false := by rw [beq_eq_false_iff_ne]; omega
  have d3 : decide ((4096 : Int) < (u.length : Int)) = false := decide_eq_false (by omega)
  have d4 : decide (4096 < u.length) = false := decide_eq_false (by omega)
  have hH := Lib.hid h
  have hTH := Lib.hid hT
  have hB0 : BS w w.heap.size [] (w.alloc (.cells #[.pointer none, .slice none 0 0] 74)) := ⟨Lib.IsBuilderF.of (Lib.fresh_isBuilder 74 5 w), (Below.refl _ _).alloc (Nat.le_refl _) _⟩
  have hB0H := Lib.hid hB0
  clear h hu hm hmm hT hB0
  go_enter Tryz.func20, Tryz.ntmps20
  go_wp2_with (go_at_call 33; ((with_reducible refine hC.out.mono ?_); rintro e w' ⟨rfl, rfl⟩))
  clear d1 d3 d4 hC
  generalize (w.alloc (.cells #[.pointer none, .slice none 0 0] 74)) = W at hB0H ⊢
  go_loopw [21] (fun i wr => ∃ k : Nat, i = .int .i64 k ∧ k ≤ u.length ∧ (loadU (uu (u.take k))).length ≤ 4194304 ∧ Hid (BS w w.heap.size (loadU (uu (u.take k))) wr)) (fun i _ => u.length - (intOf i).toNat)
  case atStart => exact ⟨0, rfl, by omega, Nat.zero_le _, hB0H⟩
  case round =>
    clear hB0H
    obtain ⟨k, rfl, hk, hkl, hB⟩ := hrel
    by_cases hlt : k < u.length
    · obtain ⟨ss, hx⟩ : ∃ x, u[k]? = some x := ⟨_, List.getElem?_eq_getElem hlt⟩
      obtain ⟨a, rfl, ha, Ai, ci, hc, hS⟩ := hH.out.on hB.out.bel k ss hx
      have hix := run_ixC a k u.length c hlt
      have hmc := hmH.out ss (List.mem_of_getElem? hx)
      have hfl := putF_len hmc
      obtain ⟨m1, m2⟩ := sz_may hmc
      have hsx : ∀ x ∈ ss, x.size ≤ 1048576 := by
        unfold mayC at hmc
        rw [Bool.and_eq_true, List.all_eq_true] at hmc
        exact fun x hx => of_decide_eq_true (hmc.2 x hx)
      have hnx := load_next hx
      have hpre := load_pre u (k + 1)
      have hszp := sz_put ss
      have hSH := Lib.hid hS
      have hltH := Lib.hid hlt
      have hTr := Lib.hid (hTH.out.on hB.out.bel)
      have dk : decide ((k : Int) < (u.length : Int)) = true := decide_eq_true (by omega)
      have dk2 : decide (k < u.length) = true := decide_eq_true hlt
      have hLn := Lib.hid (blen_any hB.out)
      obtain ⟨room, hroom⟩ : ∃ room : Nat, room = 4194304 - (loadU (uu (u.take k))).length := ⟨_, rfl⟩
      have hri : (4194304 : Int) - ((loadU (uu (u.take k))).length : Int) = (room : Int) := by omega
      have hwr := IntWalk.i64_in ((4194304 : Int) - ((loadU (uu (u.take k))).length : Int)) (by omega)
      by_cases habove : room < sz ss
      · have hA := Lib.hid (above_any Ai ci ss room wr (by omega) (by omega) hsx hS true (Lib.hid (decide_eq_true habove)))
        have hRe : Hid (loadR u = .inl 6) := Lib.hid (by
          rw [hR.out, if_pos]
          rw [hnx, List.length_append] at hpre
          omega)
        clear hx hlt hS hmc hfl m1 m2 hsx hnx hpre hszp habove hroom
        generalize loadU (uu (u.take k)) = l at *
        go_wp2_with (first
          | (go_at_call 36; ((with_reducible refine hLn.out.mono ?_); rintro e w' ⟨rfl, rfl⟩))
          | (go_at_call 35; ((with_reducible refine hA.out.mono ?_); rintro e w' ⟨rfl, rfl⟩)))
        go_ret2
        exact ⟨by rw [hRe.out]; rfl, hB.out.bel⟩
      · have hA := Lib.hid (above_any Ai ci ss room wr (by omega) (by omega) hsx hS false (Lib.hid (decide_eq_false habove)))
        have hP := Lib.hid (put_any Ai ci ss wr hTr.out hS (by omega) (by omega) hsx)
        have hW2 : Hid (∀ X, Below wr.heap.size wr X → Calls Tryz.prog 37 #[.pointer (some ⟨w.heap.size, 0, none⟩), .string ⟨(putF (txt ss)).toArray⟩] X fun e w' => (∃ n : Int, e = .returned (.tuple #[.int .i64 n, .nilIface])) ∧ BS w w.heap.size (loadU (uu (u.take (k + 1)))) w') := Lib.hid fun X hX => by
          rw [hnx]
          exact (bs_string (hB.out.on hX) ⟨(putF (txt ss)).toArray⟩ (by rw [arr_size]; omega)).mono (by rintro e w' ⟨rfl, h2⟩; exact ⟨⟨_, rfl⟩, h2⟩)
        have hLn2 : Hid (∀ X, BS w w.heap.size (loadU (uu (u.take (k + 1)))) X → Calls Tryz.prog 36 #[.pointer (some ⟨w.heap.size, 0, none⟩)] X fun e w' => e = .returned (.int .i64 ((loadU (uu (u.take (k + 1)))).length : Int)) ∧ X = w') := Lib.hid fun X hX => blen_any hX
        have hpreH := Lib.hid hpre
        have hll : (loadU (uu (u.take (k + 1)))).length ≤ 1099511627776 := by rw [hnx, List.length_append]; omega
        clear hx hlt hS hmc hfl m1 m2 hsx hnx hpre hszp habove hroom
        generalize loadU (uu (u.take k)) = l at *
        generalize hl2 : loadU (uu (u.take (k + 1))) = l2 at hW2 hLn2 hpreH hll
        have hl2H := Lib.hid hl2
        clear hl2
        generalize (⟨(putF (txt ss)).toArray⟩ : ByteArray) = p at *
        by_cases hbig : 4194304 < l2.length
        · have hRe : Hid (loadR u = .inl 6) := Lib.hid (by
            rw [hR.out, if_pos]
            have := hpreH.out
            omega)
          have d5 : decide ((4194304 : Int) < (l2.length : Int)) = true := decide_eq_true (by omega)
          have d6 : decide (4194304 < l2.length) = true := decide_eq_true hbig
          clear hbig hkl
          go_wp2_with (first
            | (go_at_call 35; ((with_reducible refine hA.out.mono ?_); rintro e w' ⟨rfl, rfl⟩))
            | (go_at_call 38; ((with_reducible refine hP.out.mono ?_); rintro e w1 ⟨rfl, hb1⟩))
            | (go_at_call 37; ((with_reducible refine (hW2.out _ hb1).mono ?_); rintro e w2 ⟨⟨n2, rfl⟩, hB2⟩))
            | (go_at_call 36; ((with_reducible refine (hLn2.out _ hB2).mono ?_); rintro e w' ⟨rfl, rfl⟩))
            | (go_at_call 36; ((with_reducible refine hLn.out.mono ?_); rintro e w' ⟨rfl, rfl⟩)))
          go_ret2
          exact ⟨by rw [hRe.out]; rfl, hB2.bel⟩
        · have d5 : decide ((4194304 : Int) < (l2.length : Int)) = false := decide_eq_false (by omega)
          have d6 : decide (4194304 < l2.length) = false := decide_eq_false hbig
          have hbigH := Lib.hid hbig
          clear hbig hkl
          go_wp2_with (first
            | (go_at_call 35; ((with_reducible refine hA.out.mono ?_); rintro e w' ⟨rfl, rfl⟩))
            | (go_at_call 38; ((with_reducible refine hP.out.mono ?_); rintro e w1 ⟨rfl, hb1⟩))
            | (go_at_call 37; ((with_reducible refine (hW2.out _ hb1).mono ?_); rintro e w2 ⟨⟨n2, rfl⟩, hB2⟩))
            | (go_at_call 36; ((with_reducible refine (hLn2.out _ hB2).mono ?_); rintro e w' ⟨rfl, rfl⟩))
            | (go_at_call 36; ((with_reducible refine hLn.out.mono ?_); rintro e w' ⟨rfl, rfl⟩)))
          go_roundw
          case rel => exact ⟨k + 1, by go_num, by have := hltH.out; omega, by rw [hl2H.out]; have := hbigH.out; omega, Lib.hid (by rw [hl2H.out]; exact hB2)⟩
          case measure => have := hltH.out; simp [intOf]; omega
    · have hke : u.take k = u := List.take_of_length_le (by omega)
      rw [hke] at hB hkl
      have hRe : Hid (loadR u = .inr (loadU (uu u))) := Lib.hid (by rw [hR.out, if_neg (by omega)])
      have dk : decide ((k : Int) < (u.length : Int)) = false := decide_eq_false (by omega)
      have dk2 : decide (k < u.length) = false := decide_eq_false hlt
      clear hlt hke hkl hR
      generalize loadU (uu u) = l at *
      go_wp2_with (go_at_call 39; ((with_reducible refine (Tryz.Builder_String_any_f _ _ _ _ hB.out.bd hB.out.bel.size).mono ?_); rintro e w3 ⟨rfl, hB3, hb3⟩))
      go_ret2
      exact ⟨by rw [hRe.out]; rfl, hB.out.bel.trans hb3⟩
theorem load_any {w : World} {A : Option Addr} {c : Nat} {u : UM} (h : CmdsAt w A u) (hu : OkL u) (hT : Tab w) :
    Calls Tryz.prog 20 #[.slice A u.length c] w fun e w' => PutEnd (loadR u) e ∧ Below w.heap.size w w' := by
  cases hm : mayB u with
  | true => exact load_good h hu hm hT
  | false => exact load_bad h hu hm
end Go.Proofs.YtjidopgohdlfdaaGreatDoor

/-
  The walks of the program's unit.length and unit.extent. Premise: the text is not longer than 2^40 bytes.
-/
namespace Go.Proofs.YtjidopgohdlfdaaGreatDoor
open Go.RowKit Dec Pq S4 Un

def accU (b0 b1 b2 b3 : Nat) (k : Nat) : Nat := if k = 0 then 0 else if k = 1 then b0 else if k = 2 then b0 + 256 * b1 else if k = 3 then b0 + 256 * (b1 + 256 * b2) else b0 + 256 * (b1 + 256 * (b2 + 256 * b3))
theorem or_u32 {a b : Nat} (ha : a < 4294967296) (hb : b < 4294967296) (hab : a ||| b < 4294967296) : bits .or .u32 (a : Int) (b : Int) = ((a ||| b : Nat) : Int) := by
  have h1 : (BitVec.ofInt 32 (a : Int)).toNat = a := by
    rw [BitVec.ofInt_natCast, BitVec.toNat_ofNat]; exact Nat.mod_eq_of_lt (by omega)
  have h2 : (BitVec.ofInt 32 (b : Int)).toNat = b := by
    rw [BitVec.ofInt_natCast, BitVec.toNat_ofNat]; exact Nat.mod_eq_of_lt (by omega)
  show IntKind.u32.wrap ((BitVec.ofInt 32 (a : Int) ||| BitVec.ofInt 32 (b : Int)).toNat : Int) = _
  rw [BitVec.toNat_or, h1, h2, C14.w32_small hab]
theorem or_add {a b : Nat} (k : Nat) (ha : a < 2 ^ k) (hs : 2 ^ k * b + a < 4294967296) : bits .or .u32 (a : Int) ((b : Int) * ((2 ^ k : Nat) : Int)) = ((a + 2 ^ k * b : Nat) : Int) := by
  have e : a ||| (2 ^ k * b) = a + 2 ^ k * b := by rw [Nat.or_comm, ← Nat.two_pow_add_eq_or_of_lt ha, Nat.add_comm]
  have h := or_u32 (a := a) (b := 2 ^ k * b) (by omega) (by omega) (by omega)
  rw [e] at h
  rw [← h]
  congr 1
  rw [Int.natCast_mul, Int.mul_comm]
set_option maxHeartbeats 4000000 in
theorem ulength_any (s : ByteArray) (h4 : s.size = 4) (w : World) : Calls Tryz.prog 43 #[.string s] w fun e w' => e = .returned (.int .u32 ((s[0].toNat + 256 * (s[1].toNat + 256 * (s[2].toNat + 256 * s[3].toNat)) : Nat) : Int)) ∧ w = w' := by
  have l0 := s[0].toNat_lt
  have l1 := s[1].toNat_lt
  have l2 := s[2].toNat_lt
  have l3 := s[3].toNat_lt
  have o0 := Lib.hid (or_add (a := 0) (b := s[0].toNat) 0 (by omega) (by omega))
  have o1 := Lib.hid (or_add (a := s[0].toNat) (b := s[1].toNat) 8 (by omega) (by omega))
  have o2 := Lib.hid (or_add (a := s[0].toNat + 256 * s[1].toNat) (b := s[2].toNat) 16 (by omega) (by omega))
  have o3 := Lib.hid (or_add (a := s[0].toNat + 256 * (s[1].toNat + 256 * s[2].toNat)) (b := s[3].toNat) 24 (by omega) (by omega))
  go_enter Tryz.func43, Tryz.ntmps43
  go_wp2_with fail
  go_loop [3, 7] (fun n i => ∃ k : Nat, k ≤ 4 ∧ i = .int .i64 k ∧ n = .int .u32 (accU s[0].toNat s[1].toNat s[2].toNat s[3].toNat k : Nat)) (fun _ i => 4 - (intOf i).toNat)
  case atStart => exact ⟨0, by omega, rfl, rfl⟩
  case round =>
    obtain ⟨k, hk, rfl, rfl⟩ := hrel
    match k, hk with
    | 0, _ =>
      rw [show accU s[0].toNat s[1].toNat s[2].toNat s[3].toNat 0 = 0 from rfl]
      go_wp2_with fail
      refine ⟨⟨1, by omega, rfl, congrArg (Value.int IntKind.u32) ?_⟩, by decide⟩
      refine Eq.trans ?_ (o0.out.trans ?_)
      · simp
      · simp [accU]
    | 1, _ =>
      rw [show accU s[0].toNat s[1].toNat s[2].toNat s[3].toNat 1 = s[0].toNat from rfl]
      go_wp2_with fail
      refine ⟨⟨2, by omega, rfl, congrArg (Value.int IntKind.u32) ?_⟩, by decide⟩
      exact o1.out
    | 2, _ =>
      obtain ⟨q, hq⟩ : ∃ q, q = s[0].toNat + 256 * s[1].toNat := ⟨_, rfl⟩
      rw [show accU s[0].toNat s[1].toNat s[2].toNat s[3].toNat 2 = s[0].toNat + 256 * s[1].toNat from rfl]
      rw [← hq] at o2 ⊢
      have hqH := Lib.hid hq
      clear hq
      go_wp2_with fail
      refine ⟨⟨3, by omega, rfl, congrArg (Value.int IntKind.u32) ?_⟩, by decide⟩
      refine o2.out.trans ?_
      rw [hqH.out]
      rw [show accU s[0].toNat s[1].toNat s[2].toNat s[3].toNat 3 = s[0].toNat + 256 * (s[1].toNat + 256 * s[2].toNat) from rfl]
      congr 1
      omega
    | 3, _ =>
      obtain ⟨q, hq⟩ : ∃ q, q = s[0].toNat + 256 * (s[1].toNat + 256 * s[2].toNat) := ⟨_, rfl⟩
      rw [show accU s[0].toNat s[1].toNat s[2].toNat s[3].toNat 3 = s[0].toNat + 256 * (s[1].toNat + 256 * s[2].toNat) from rfl]
      rw [← hq] at o3 ⊢
      have hqH := Lib.hid hq
      clear hq
      go_wp2_with fail
      refine ⟨⟨4, by omega, rfl, congrArg (Value.int IntKind.u32) ?_⟩, by decide⟩
      refine o3.out.trans ?_
      rw [hqH.out]
      rw [show accU s[0].toNat s[1].toNat s[2].toNat s[3].toNat 4 = s[0].toNat + 256 * (s[1].toNat + 256 * (s[2].toNat + 256 * s[3].toNat)) from rfl]
      congr 1
      omega
    | 4, _ => 
      go_wp2_with fail
      go_ret
      exact ⟨rfl, rfl⟩
/-- How many bytes the unit has with which a text begins, as far as its head tells. -/
def extR (l : List UInt8) : Sum Int Nat := if l = [] then .inl 4 else if l.head? ≠ some 85 then .inl 5 else if l.length < 5 then .inl 4 else if 4194304 < len4 l then .inl 6
  else if l.length < len4 l + 9 then .inl 4 else .inr (len4 l + 9)
def ExtEnd (R : Sum Int Nat) (e : Ending) : Prop := match R with
  | .inl k => k ≠ 0 ∧ e = .returned (.tuple #[.int .i64 0, .int .i64 k])
  | .inr n => e = .returned (.tuple #[.int .i64 (n : Nat), .int .i64 0])
set_option maxHeartbeats 4000000 in
theorem extent_any (s : ByteArray) (hs : s.size ≤ 1099511627776) (w : World) : Calls Tryz.prog 29 #[.string s] w fun e w' => ExtEnd (extR s.data.toList) e ∧ w = w' := by
  by_cases h0 : s.size = 0
  · obtain ⟨⟨l⟩⟩ := s
    obtain rfl : l = [] := by
      cases l with
      | nil => rfl
      | cons a t => simp [ByteArray.size] at h0
    clear h0 hs
    go_enter Tryz.func29, Tryz.ntmps29
    go_wp2_with fail
    go_ret2
    exact ⟨⟨by decide, rfl⟩, rfl⟩
  have hnel : s.data.toList ≠ [] := fun e => by have := congrArg List.length e; rw [size_len, List.length_nil] at this; omega
  have hne : s.toList ≠ [] := fun e => by rw [Lib.toList_data] at e; exact hnel e
  have k1 : (s.toList == ([] : List UInt8)) = false := by simpa using hne
  have h1 : 0 < s.size := by omega
  by_cases h85 : s[0] = 85
  case neg =>
    have hR : Hid (extR s.data.toList = .inl 5) := Lib.hid (by
      unfold extR
      rw [if_neg hnel, if_pos (by rw [head_of (by omega)]; exact fun e => h85 (Option.some.inj e))])
    have hb : ¬ ((s[0].toNat : Int) = 85) := fun e => h85 (UInt8.toNat_inj.1 (show s[0].toNat = 85 by omega))
    have k2 : ((s[0].toNat : Int) != 85) = true := by simpa using hb
    have k3 : ((s[0].toNat : Int) == 85) = false := by simpa using hb
    rw [hR.out]
    clear hne hnel hb h85 hR
    go_enter Tryz.func29, Tryz.ntmps29
    go_wp2_with fail
    go_ret2
    exact ⟨⟨by decide, rfl⟩, rfl⟩
  have k2 : ((s[0].toNat : Int) != 85) = false := by rw [h85]; rfl
  have k3 : ((s[0].toNat : Int) == 85) = true := by rw [h85]; rfl
  by_cases h5 : s.size < 5
  · have hR : Hid (extR s.data.toList = .inl 4) := Lib.hid (by
      unfold extR
      rw [if_neg hnel, if_neg (by rw [head_of (by omega), h85]; exact fun e => e rfl), if_pos (by rw [size_len]; exact h5)])
    have d1 : decide ((s.size : Int) < 5) = true := decide_eq_true (by omega)
    rw [hR.out]
    clear hne hnel h85 hR
    go_enter Tryz.func29, Tryz.ntmps29
    go_wp2_with fail
    go_ret2
    exact ⟨⟨by decide, rfl⟩, rfl⟩
  have d1 : decide ((s.size : Int) < 5) = false := decide_eq_false (by omega)
  have hLn : Hid (Calls Tryz.prog 43 #[.string (s.extract 1 5)] w fun e w' => e = .returned (.int .u32 ((len4 s.data.toList : Nat) : Int)) ∧ w = w') := Lib.hid (by
    have h := ulength_any (s.extract 1 5) (by simp; omega) w
    rw [len4_at (by omega)]
    have e : ∀ (i : Nat) (hi : i < 4), (s.extract 1 5)[i]'(by simp; omega) = s[1 + i]'(by omega) := fun i hi => by
      rw [ByteArray.getElem_extract]
    rw [e 0 (by omega), e 1 (by omega), e 2 (by omega), e 3 (by omega)] at h
    exact h)
  have hNl := len4_lt (s := s) (by omega)
  have hR : Hid (extR s.data.toList = if 4194304 < len4 s.data.toList then .inl 6 else if s.size < len4 s.data.toList + 9 then .inl 4 else .inr (len4 s.data.toList + 9)) := Lib.hid (by
    unfold extR
    rw [if_neg hnel, if_neg (by rw [head_of (by omega), h85]; exact fun e => e rfl), if_neg (by rw [size_len]; omega), size_len])
  rw [hR.out]
  generalize len4 s.data.toList = N at *
  clear hne hnel h85 hR
  have z5 : 5 ≤ s.size := by omega
  by_cases hlong : 4194304 < N
  · have dl : decide ((4194304 : Int) < (N : Int)) = true := decide_eq_true (by omega)
    rw [if_pos hlong]
    clear hlong
    go_enter Tryz.func29, Tryz.ntmps29
    go_wp2_with (go_at_call 43; ((with_reducible refine hLn.out.mono ?_); rintro e w' ⟨rfl, rfl⟩))
    go_ret2
    exact ⟨⟨by decide, rfl⟩, rfl⟩
  have dl : decide ((4194304 : Int) < (N : Int)) = false := decide_eq_false (by omega)
  rw [if_neg hlong]
  by_cases hsh : s.size < N + 9
  · have ds : decide ((s.size : Int) < (N : Int) + 9) = true := decide_eq_true (by omega)
    rw [if_pos hsh]
    clear hsh
    go_enter Tryz.func29, Tryz.ntmps29
    go_wp2_with (go_at_call 43; ((with_reducible refine hLn.out.mono ?_); rintro e w' ⟨rfl, rfl⟩))
    go_ret2
    exact ⟨⟨by decide, rfl⟩, rfl⟩
  · have ds : decide ((s.size : Int) < (N : Int) + 9) = false := decide_eq_false (by omega)
    rw [if_neg hsh]
    clear hsh
    go_enter Tryz.func29, Tryz.ntmps29
    go_wp2_with (go_at_call 43; ((with_reducible refine hLn.out.mono ?_); rintro e w' ⟨rfl, rfl⟩))
    go_ret2
    exact ⟨rfl, rfl⟩
end Go.Proofs.YtjidopgohdlfdaaGreatDoor

/-
  The walk of the program's unit.commands. Premises: the text has at most 2^22 bytes; the listed variables hold what the program's text lays.
-/
namespace Go.Proofs.YtjidopgohdlfdaaGreatDoor
open Go.RowKit Dec Pq S4 Un

/-- The commands that are read where a line may be long. -/
def reqsL (b : List UInt8) : U := (feedF 65536 1048576 65536 (Inp.none b)).2.map (·.1)
theorem reqsL_load : ∀ (u : U), (∀ c ∈ u, c ≠ [] ∧ c.length ≤ 65536 ∧ ∀ a ∈ c, a.length ≤ 1048576) → reqsL (loadU u) = u
  | [], _ => by
    unfold reqsL
    rw [show loadU [] = [] from rfl, feed_stop (show stepF 65536 1048576 65536 (Inp.none []) = .inl (-1) from rfl)]
    rfl
  | c :: u, h => by
    have ih := reqsL_load u (fun x hx => h x (List.mem_cons_of_mem _ hx))
    obtain ⟨h0, h1, h2⟩ := h c List.mem_cons_self
    unfold reqsL at ih ⊢
    rw [load_cons, put_ok c (loadU u) h0 h1 (by omega) (fun a ha => ⟨h2 a ha, by have := h2 a ha; omega⟩)]
    simp only [List.map_cons]
    rw [ih]
theorem reqs_yes {s : List UInt8} (h : mayU (reqsL s) = true ∧ loadU (reqsL s) = s) : reqsU s = reqsL s := by
  have := reqs_load (reqsL s) (may_parts h.1).2.2
  rw [h.2] at this
  exact this
theorem reqs_no {s : List UInt8} (h : ¬ (mayU (reqsL s) = true ∧ loadU (reqsL s) = s)) : ¬ (mayU (reqsU s) = true ∧ loadU (reqsU s) = s) := fun h2 => by
  have := reqsL_load (reqsU s) (may_parts h2.1).2.2
  rw [h2.2] at this
  rw [this] at h
  exact h h2
/-- The commands whose bytes a text is. -/
def cmdR (s : List UInt8) : Sum Int U := if mayU (reqsU s) = true ∧ loadU (reqsU s) = s then .inr (reqsU s) else .inl 5
theorem cmdR_yes {s : List UInt8} {u : U} (h : reqsL s = u) (h1 : mayU u = true) (h2 : loadU u = s) : cmdR s = .inr u := by
  subst h
  have e := reqs_yes ⟨h1, h2⟩
  unfold cmdR
  rw [e, if_pos ⟨h1, h2⟩]
theorem cmdR_no {s : List UInt8} {u : U} (h : reqsL s = u) (h1 : ¬ (mayU u = true ∧ loadU u = s)) : cmdR s = .inl 5 := by
  subst h
  unfold cmdR
  rw [if_neg (reqs_no h1)]
def CmdEnd (base : Nat) (R : Sum Int U) (e : Ending) (w' : World) : Prop := match R with
  | .inl k => e = .returned (.tuple #[.slice none 0 0, .int .i64 k])
  | .inr u => ∃ (m : UM) (A : Option Addr) (c : Nat), uu m = u ∧ CmdsOk w' (fun b => base ≤ b) A m ∧ e = .returned (.tuple #[.slice A m.length c, .int .i64 0])
theorem feed_two {w : World} {A n : Nat} {R : Sum Int Inp × List Rq} {e : Ending} {w' : World} (h : FeedEnd w A n R e w') : Below w.heap.size w w' ∧ ∃ (q : List MR) (Aq : Option Addr) (cq : Nat) (r0 : ByteArray) (a1 : Option Addr) (n1 c1 : Nat) (i2 i3 : Int) (b4 : Bool) (i5 i6 k : Int), q.map rq = R.2 ∧ Rqs w' (fun b => w.heap.size ≤ b) Aq q ∧ q.length ≤ n ∧ e = .returned (.tuple #[.agg #[.string r0, .slice a1 n1 c1, .int .i64 i2, .int .i64 i3, .bool b4, .int .i64 i5, .int .i64 i6], .slice Aq q.length cq, .int .i64 k]) := by
  obtain ⟨hb, q, Aq, cq, h1, _, h2, h3, h4⟩ := h
  refine ⟨hb, q, Aq, cq, ?_⟩
  split at h4
  · exact ⟨_, _, _, _, _, _, _, _, _, _, h1, h2, h3, h4.2⟩
  · obtain ⟨my, a, c, _, _, _, _, _, h5⟩ := h4
    exact ⟨_, _, _, _, _, _, _, _, _, _, h1, h2, h3, h5⟩
/-- A row of commands under way: the first so many are there. -/
def cmdCells (n : Nat) (vs : List Value) : Array Value := (vs ++ List.replicate (n - vs.length) (Value.slice none 0 0)).toArray
theorem made_cmds (n : Nat) : madeCells (Value.slice none 0 0).cells (n * 1) = cmdCells n [] := by
  apply Array.ext
  · simp [madeCells, cmdCells]
  · intro i h1 h2
    simp [madeCells, cmdCells]
    show (#[Value.slice none 0 0] : Array Value)[i % 1]! = Value.slice none 0 0
    rw [Nat.mod_one]
    rfl
theorem run_cmds (n : Nat) (hn : n ≤ 4194304) (w : World) : (Instr.makeSlice 22 (.int .i64 (n : Int)) (.int .i64 (n : Int))).run Tryz.prog w = .ok (.slice (some ⟨w.heap.size, 0, none⟩) n n) (w.alloc (.cells (cmdCells n []) 49)) := by
  obtain ⟨i, hi, h0, h1, h2⟩ := info_parts cmd_info
  have hb : (i.bytes : Int) * (n : Int) ≤ 281474976710656 := by rw [h2]; omega
  have := run_make (P := Tryz.prog) w 22 49 i (.slice none 0 0) Tryz.underlying22 hi h0 .i64 .i64 n n (by omega) (by omega) hb (by omega)
  rw [h1] at this
  simp only [Int.toNat_natCast] at this
  rw [this, made_cmds]
theorem cmdCells_at {n : Nat} {vs : List Value} (h : vs.length < n) : (cmdCells n vs)[vs.length]? = some (.slice none 0 0) := by
  unfold cmdCells
  rw [List.getElem?_toArray, List.getElem?_append_right (Nat.le_refl _), Nat.sub_self, List.getElem?_replicate]
  rw [if_pos (by omega)]
theorem cmdCells_set {n : Nat} {vs : List Value} (h : vs.length < n) (v : Value) : (cmdCells n vs).setIfInBounds vs.length v = cmdCells n (vs ++ [v]) := by
  unfold cmdCells
  obtain ⟨m, hm⟩ : ∃ m, n - vs.length = m + 1 := ⟨n - vs.length - 1, by omega⟩
  rw [hm, show n - (vs ++ [v]).length = m by simp; omega]
  simp [List.replicate_succ, List.set_append_right]
theorem cmds_done {U X : World} {ok : Nat → Prop} {g : Nat} {q : List MR} {vs : List Value} (h : X.heap[g]? = some (.cells (cmdCells q.length vs) 49 (0, 0))) (hv : Vals U ok q vs) (hl : vs.length = q.length) (hg : ok g) (hb : Below U.heap.size U X) : CmdsOk X ok (some ⟨g, 0, none⟩) (q.map (·.1)) := fun i ss hi => by
  rw [List.getElem?_map] at hi
  obtain ⟨p, hp, rfl⟩ := Option.map_eq_some_iff.1 hi
  have hil := (List.getElem?_eq_some_iff.1 hp).1
  obtain ⟨Ai, ci, h1, h2⟩ := hv i p hp (by omega)
  refine ⟨⟨g, 0, none⟩, rfl, hg, heap_lt h, Ai, ci, ?_, h2.on hb⟩
  have e : (⟨g, 0, none⟩ : Addr).add i = ⟨g, i, none⟩ := by unfold Addr.add; split <;> simp_all
  rw [e, Lib.cell_of_heap h i]
  unfold cmdCells
  rw [List.getElem?_toArray, List.getElem?_append_left (by omega)]
  exact h1
theorem run_ixQ (a : Addr) (k n c : Nat) (hk : k < n) (w : World) : Sem.run Tryz.prog (Instr.indexAt 63 (.slice (some a) n c) (.int .i64 (k : Int))) w = .ok (.pointer (some (a.add (k * 2)))) w := by
  go_simp
theorem loadR_inl {u : UM} {k : Int} (h : loadR u = .inl k) : k ≠ 0 ∧ ∀ s : ByteArray, s.size ≤ 4194304 → ¬ (mayU (uu u) = true ∧ loadU (uu u) = s.data.toList) := by
  unfold loadR at h
  split at h
  · rename_i h1
    obtain rfl := Sum.inl.inj h
    exact ⟨by decide, fun s _ h2 => by rw [may_uu, h1] at h2; cases h2.1⟩
  · split at h
    · rename_i h2
      obtain rfl := Sum.inl.inj h
      refine ⟨by decide, fun s hs h3 => ?_⟩
      rw [h3.2, size_len] at h2
      omega
    · cases h
theorem loadR_inr {u : UM} {l : List UInt8} (h : loadR u = .inr l) : mayB u = true ∧ l = loadU (uu u) := by
  unfold loadR at h
  split at h
  · cases h
  · rename_i h1
    split at h
    · cases h
    · exact ⟨by simpa using h1, (Sum.inr.inj h).symm⟩
set_option maxRecDepth 100000 in
set_option maxHeartbeats 8000000 in
theorem commands_any (s : ByteArray) (w : World) (hs : s.size ≤ 4194304) (hT : Tab w) (hE : ErrAt w) :
    Calls Tryz.prog 31 #[.string s] w fun e w' => CmdEnd w.heap.size (cmdR s.data.toList) e w' ∧ Below w.heap.size w w' := by
  have hF : Hid (Calls Tryz.prog 44 #[.agg #[.string ⟨#[]⟩, .slice none 0 0, .int .i64 0, .int .i64 0, .bool false, .int .i64 0, .int .i64 0], .string s, .agg #[.int .i64 65536, .int .i64 1048576, .int .i64 65536]] w fun e w' => Below w.heap.size w w' ∧ ∃ (q : List MR) (Aq : Option Addr) (cq : Nat) (r0 : ByteArray) (a1 : Option Addr) (n1 c1 : Nat) (i2 i3 : Int) (b4 : Bool) (i5 i6 k : Int), q.map rq = (feedF 65536 1048576 65536 (Inp.none s.data.toList)).2 ∧ Rqs w' (fun b => w.heap.size ≤ b) Aq q ∧ q.length ≤ s.size ∧ e = .returned (.tuple #[.agg #[.string r0, .slice a1 n1 c1, .int .i64 i2, .int .i64 i3, .bool b4, .int .i64 i5, .int .i64 i6], .slice Aq q.length cq, .int .i64 k])) := Lib.hid (by
    have h := feed_any ⟨⟨#[]⟩, [], 0, 0, false, 0⟩ none 0 s 65536 1048576 65536 65536 1048576 65536 w (Lib.hid (by decide)) (Lib.hid (by decide)) (Lib.hid (by decide)) (by decide) (by decide) (by decide) ⟨fun _ => ⟨rfl, rfl, rfl, rfl⟩, fun h => absurd rfl h⟩ (by show 0 + 0 + s.size ≤ _; omega) ⟨fun _ => ⟨rfl, rfl⟩, fun i x hx => by simp at hx⟩ hE hE
    refine h.mono (fun e w' hh => ?_)
    have h2 := feed_two hh
    have e0 : (MI.inp ⟨⟨#[]⟩, [], 0, 0, false, 0⟩).add s.data.toList = Inp.none s.data.toList := by simp [MI.inp, Inp.add, Inp.none, txt]
    rw [e0] at h2
    have e1 : (0 + (⟨#[]⟩ : ByteArray).size + s.size) = s.size := by show 0 + 0 + s.size = _; omega
    rw [e1] at h2
    exact h2)
  have hTH := Lib.hid hT
  clear hT hE
  obtain ⟨R, hR⟩ : ∃ R, R = cmdR s.data.toList := ⟨_, rfl⟩
  rw [← hR]
  have hRH := Lib.hid hR
  clear hR
  go_enter Tryz.func31, Tryz.ntmps31
  go_upto_region 2 with (go_at_call 44; ((with_reducible refine (hF.out).mono ?_); rintro e u2 ⟨hb2, q, Aq, cq, r0, a1, n1, c1, i2, i3, b4, i5, i6, k0, hq0, hRq, hqn, rfl⟩))
  have hfw : Hid (OkL (q.map (·.1))) := Lib.hid ⟨by rw [List.length_map]; omega, fun ss hss => by
    obtain ⟨p, hp, rfl⟩ := List.mem_map.1 hss
    have h1 := feed_few (A := 65536) (B := 1048576) (L := 65536) (s.data.toList.length + 1) (Inp.none s.data.toList) (Nat.lt_succ_self _) (fun h => absurd rfl h)
    rw [← hq0] at h1
    have h2 := (h1 _ (List.mem_map.2 ⟨p, hp, rfl⟩)).2
    have h3 : (rq p).1.length = p.1.length := by simp [rq, txt]
    omega⟩
  have huR : Hid (reqsL s.data.toList = uu (q.map (·.1))) := Lib.hid (by
    unfold reqsL uu
    rw [← hq0, List.map_map, List.map_map]
    rfl)
  have hbU : Below w.heap.size w (u2.alloc (.cells #[.string r0, .slice a1 n1 c1, .int .i64 i2, .int .i64 i3, .bool b4, .int .i64 i5, .int .i64 i6] 62)) := hb2.alloc hb2.size _
  have hRU : Rqs (u2.alloc (.cells #[.string r0, .slice a1 n1 c1, .int .i64 i2, .int .i64 i3, .bool b4, .int .i64 i5, .int .i64 i6] 62)) (fun b => w.heap.size ≤ b) Aq q := hRq.on one_box
  generalize (u2.alloc (.cells #[.string r0, .slice a1 n1 c1, .int .i64 i2, .int .i64 i3, .bool b4, .int .i64 i5, .int .i64 i6] 62)) = U at hbU hRU ⊢
  have hbUH := Lib.hid hbU
  have hRUH := Lib.hid hRU
  have hmk := run_cmds q.length (by omega)
  clear hbU hRU hb2 hRq hq0 hF
  go_upto_region 3 with fail
  have hn0 := Lib.hid (heap_alloc_new U (.cells (cmdCells q.length []) 49))
  have hn1 := Lib.hid (one_box (w := U) (cs := cmdCells q.length []) (t := 49))
  generalize (U.alloc (.cells (cmdCells q.length []) 49)) = W3 at hn0 hn1 ⊢
  have hgU := Lib.hid (heap_lt hn0.out)
  clear hmk
  go_wp2_with fail
  go_loopw [25] (fun i wr => ∃ (vs : List Value), i = .int .i64 (vs.length : Nat) ∧ vs.length ≤ q.length ∧ Hid (wr.heap[U.heap.size]? = some (.cells (cmdCells q.length vs) 49 (0, 0))) ∧ Hid (Below U.heap.size U wr) ∧ Hid (Vals U (fun b => w.heap.size ≤ b) q vs)) (fun i _ => q.length - (intOf i).toNat)
  case atStart => exact ⟨[], rfl, Nat.zero_le _, hn0, hn1, Lib.hid (fun i p _ hi => by simp at hi)⟩
  case round =>
    clear hn0 hn1
    obtain ⟨vs, rfl, hk, hM, hW, hV⟩ := hrel
    by_cases hlt : vs.length < q.length
    · obtain ⟨p, hx⟩ : ∃ x, q[vs.length]? = some x := ⟨_, List.getElem?_eq_getElem hlt⟩
      obtain ⟨a, d0, d1, rfl, _, hab, hc0, hc1, A1, cap1, hd, hne, hs1⟩ := hRUH.out vs.length p hx
      obtain ⟨rfl, rfl⟩ : d0 = .slice A1 p.1.length cap1 ∧ d1 = .int .i64 p.2 := by simpa using hd
      have hw0 : wr.cell? (a.add (vs.length * 2)) = some (.slice A1 p.1.length cap1) := (hW.out.cell (p := a.add (vs.length * 2)) (by rw [block_of_add]; exact hab)).trans hc0
      have hw1 : wr.cell? ⟨(a.add (vs.length * 2)).block, (a.add (vs.length * 2)).off + 1, none⟩ = some (.int .i64 p.2) := (hW.out.cell (p := ⟨(a.add (vs.length * 2)).block, (a.add (vs.length * 2)).off + 1, none⟩) (by rw [block_of_add]; exact hab)).trans hc1
      have hix := run_ixR a vs.length q.length cq hlt
      have hVn := Lib.hid (vals_next (Ai := A1) (ci := cap1) hV.out hx hs1)
      have hset := Lib.hid (cmdCells_set hlt (.slice A1 p.1.length cap1))
      have hltH := Lib.hid hlt
      have hszw := hW.out.size
      have dk : decide ((vs.length : Int) < (q.length : Int)) = true := decide_eq_true (by omega)
      have dk2 : decide (vs.length < q.length) = true := decide_eq_true hlt
      clear hx hlt hd hne hs1 hc0 hc1
      go_upto_region 6 with fail
      have hM6 : (wr.alloc (.cells #[.slice A1 p.1.length cap1, .int .i64 p.2] 69)).heap[U.heap.size]? = some (.cells (cmdCells q.length vs) 49 (0, 0)) := by
        rw [Below.heap_alloc _ _ _ (heap_lt hM.out)]
        exact hM.out
      have hW6 : Below U.heap.size U (wr.alloc (.cells #[.slice A1 p.1.length cap1, .int .i64 p.2] 69)) := hW.out.alloc hW.out.size _
      have z6 : (wr.alloc (.cells #[.slice A1 p.1.length cap1, .int .i64 p.2] 69)).cell? ⟨wr.heap.size, 0, none⟩ = some (.slice A1 p.1.length cap1) := Lib.cell_of_heap (heap_alloc_new wr _) 0
      generalize (wr.alloc (.cells #[.slice A1 p.1.length cap1, .int .i64 p.2] 69)) = W6 at hM6 hW6 z6 ⊢
      have j0 : W6.cell? ⟨U.heap.size, vs.length, none⟩ = some (.slice none 0 0) := by rw [Lib.cell_of_heap hM6 vs.length]; exact cmdCells_at hltH.out
      have f0 := Lib.frozen_of_heap hM6 vs.length
      have hM6H := Lib.hid hM6
      have hW6H := Lib.hid hW6
      clear hM6 hW6 hw0 hw1 hix
      go_wp2_with fail
      have hl1 : (vs ++ [Value.slice A1 p.1.length cap1]).length = vs.length + 1 := by simp
      refine ⟨⟨vs ++ [Value.slice A1 p.1.length cap1], by rw [hl1]; go_num, by rw [hl1]; have := hltH.out; omega, Lib.hid (by rw [Joins.block_setCell hM6H.out, hset.out]), Lib.hid (hW6H.out.setCell (p := ⟨U.heap.size, vs.length, none⟩) (Nat.le_refl _) _), hVn⟩, ?_⟩
      have := hltH.out
      simp [intOf]
      omega
    · have hlq : vs.length = q.length := by omega
      have hbw : Hid (Below w.heap.size w wr) := Lib.hid (hbUH.out.trans (hW.out.mono hbUH.out.size))
      have hcm := Lib.hid (cmds_done hM.out hV.out hlq (show w.heap.size ≤ U.heap.size from hbUH.out.size) hW.out)
      have dk : decide ((vs.length : Int) < (q.length : Int)) = false := decide_eq_false (by omega)
      have dk2 : decide (vs.length < q.length) = false := decide_eq_false (by omega)
      have hlm : (q.map (·.1)).length = q.length := List.length_map _
      have hlmH := Lib.hid hlm
      have hLd := load_any (c := q.length) hcm.out.plain hfw.out (hTH.out.on hbw.out)
      rw [hlm] at hLd
      clear hlt hlm hlq hqn
      generalize q.map (·.1) = m at *
      cases hl : loadR m with
      | inl k =>
        obtain ⟨hk0, hno⟩ := loadR_inl hl
        have hLH : Hid (Calls Tryz.prog 20 #[.slice (some ⟨U.heap.size, 0, none⟩) q.length q.length] wr fun e w' => e = .returned (.tuple #[.string ⟨#[]⟩, .int .i64 k]) ∧ Below wr.heap.size wr w') := Lib.hid (by rw [hl] at hLd; exact hLd)
        have k1 : (k == 0) = false := beq_false_of_ne hk0
        have k2 : (k != 0) = true := by simpa using hk0
        have hRe : Hid (R = .inl 5) := Lib.hid (hRH.out.trans (cmdR_no huR.out (hno s hs)))
        clear hLd hl hk0 hno
        go_wp2_with (go_at_call 20; ((with_reducible refine hLH.out.mono ?_); rintro e w4 ⟨rfl, hb4⟩))
        go_ret2
        exact ⟨by rw [hRe.out]; rfl, hbw.out.trans (hb4.mono hbw.out.size)⟩
      | inr l =>
        obtain ⟨hmay, hlu⟩ := loadR_inr hl
        have hLH : Hid (Calls Tryz.prog 20 #[.slice (some ⟨U.heap.size, 0, none⟩) q.length q.length] wr fun e w' => e = .returned (.tuple #[.string ⟨l.toArray⟩, .int .i64 0]) ∧ Below wr.heap.size wr w') := Lib.hid (by rw [hl] at hLd; exact hLd)
        have k1 : ((0 : Int) == 0) = true := rfl
        have k2 : ((0 : Int) != 0) = false := rfl
        by_cases heq : l = s.data.toList
        · have q1 : ((⟨l.toArray⟩ : ByteArray).toList == s.toList) = true := by
            rw [Lib.toList_data, Lib.toList_data]
            simpa using heq
          have q2 : ((⟨l.toArray⟩ : ByteArray).toList != s.toList) = false := by
            rw [Lib.toList_data, Lib.toList_data]
            simpa using heq
          have hRe : Hid (R = .inr (uu m)) := Lib.hid (hRH.out.trans (cmdR_yes huR.out (by rw [may_uu]; exact hmay) (by rw [← hlu]; exact heq)))
          clear hLd hl hmay hlu heq
          generalize (⟨l.toArray⟩ : ByteArray) = b at hLH q1 q2
          go_wp2_with (go_at_call 20; ((with_reducible refine hLH.out.mono ?_); rintro e w4 ⟨rfl, hb4⟩))
          go_ret2
          refine ⟨?_, hbw.out.trans (hb4.mono hbw.out.size)⟩
          rw [hRe.out]
          refine ⟨m, some ⟨U.heap.size, 0, none⟩, q.length, rfl, hcm.out.on hb4, ?_⟩
          rw [hlmH.out]
          rfl
        · have q1 : ((⟨l.toArray⟩ : ByteArray).toList == s.toList) = false := by
            rw [Lib.toList_data, Lib.toList_data]
            simpa using heq
          have q2 : ((⟨l.toArray⟩ : ByteArray).toList != s.toList) = true := by
            rw [Lib.toList_data, Lib.toList_data]
            simpa using heq
          have hRe : Hid (R = .inl 5) := Lib.hid (hRH.out.trans (cmdR_no huR.out (fun h => heq (hlu.trans h.2))))
          clear hLd hl hmay hlu heq
          generalize (⟨l.toArray⟩ : ByteArray) = b at hLH q1 q2
          go_wp2_with (go_at_call 20; ((with_reducible refine hLH.out.mono ?_); rintro e w4 ⟨rfl, hb4⟩))
          go_ret2
          exact ⟨by rw [hRe.out]; rfl, hbw.out.trans (hb4.mono hbw.out.size)⟩
end Go.Proofs.YtjidopgohdlfdaaGreatDoor

/-
  The walk of the program's unit.head. Premise: the commands' bytes are not too many.
-/
namespace Go.Proofs.YtjidopgohdlfdaaGreatDoor
open Go.RowKit Dec Pq S4 Un

def hb4 (n : Nat) : Nat → Value
  | 0 => .int .u8 ((n % 256 : Nat) : Int)
  | 1 => .int .u8 ((n / 256 % 256 : Nat) : Int)
  | 2 => .int .u8 ((n / 65536 % 256 : Nat) : Int)
  | _ => .int .u8 0
def row5 (n i : Nat) : Array Value := #[.int .u8 85, if 0 < i then hb4 n 0 else .int .u8 0, if 1 < i then hb4 n 1 else .int .u8 0, if 2 < i then hb4 n 2 else .int .u8 0, if 3 < i then hb4 n 3 else .int .u8 0]
theorem row5_conv {w : World} {g n : Nat} (h : w.heap[g]? = some (.cells (row5 n 4) 83)) : (convert 45 9 (.slice (some ⟨g, 0, none⟩) 5 5)).run Tryz.prog w = .ok (.string ⟨(lenL n).toArray⟩) w := by
  refine run_convert_bytes_back _ 45 9 5 ⟨g, 0, none⟩ 5 (lenL n) Tryz.underlying45 Tryz.underlying5 Tryz.underlying9 (Lib.bytes_of_row h ?_)
  simp [Lib.byteCells, row5, hb4, lenL]
theorem row5_set {n i : Nat} (h : i < 4) : (row5 n i).setIfInBounds (i + 1) (hb4 n i) = row5 n (i + 1) := by
  match i, h with
  | 0, _ => rfl
  | 1, _ => rfl
  | 2, _ => rfl
  | 3, _ => rfl
set_option maxHeartbeats 4000000 in
theorem uhead_any (n : Nat) (hn : n ≤ 4194304) (w : World) : Calls Tryz.prog 22 #[.int .i64 (n : Int)] w fun e w' => e = .returned (.string ⟨(lenL n).toArray⟩) ∧ Below w.heap.size w w' := by
  have hnew := Lib.hid (show (w.alloc (.cells #[.int .u8 85, .int .u8 0, .int .u8 0, .int .u8 0, .int .u8 0] 83)).heap[w.heap.size]? = some (.cells (row5 n 0) 83) from heap_alloc_new w _)
  have hbel := Lib.hid (one_box (w := w) (cs := #[.int .u8 85, .int .u8 0, .int .u8 0, .int .u8 0, .int .u8 0]) (t := 83))
  go_enter Tryz.func22, Tryz.ntmps22
  go_upto_region 2 with fail
  generalize (w.alloc (.cells #[.int .u8 85, .int .u8 0, .int .u8 0, .int .u8 0, .int .u8 0] 83)) = W at hnew hbel ⊢
  go_wp2_with fail
  go_loopw [6] (fun s6 wr => ∃ i : Nat, i ≤ 4 ∧ s6 = .int .i64 i ∧ Hid (wr.heap[w.heap.size]? = some (.cells (row5 n i) 83)) ∧ Hid (Below w.heap.size w wr)) (fun s6 _ => 4 - (intOf s6).toNat)
  case atStart => exact ⟨0, by omega, rfl, hnew, hbel⟩
  case round =>
    clear hnew hbel
    obtain ⟨i, hi, rfl, hb, hon⟩ := hrel
    match i, hi with
    | 0, _ =>
      have hce : wr.cell? ⟨w.heap.size, 1, none⟩ = some (.int .u8 0) := Lib.cell_of_heap hb.out 1
      have hfz : wr.frozen? ⟨w.heap.size, 1, none⟩ = false := by simp [World.frozen?, hb.out]
      go_wp2_with fail
      refine ⟨⟨1, by omega, rfl, Lib.hid ?_, Lib.hid (hon.out.setCell (p := ⟨w.heap.size, 1, none⟩) (Nat.le_refl _) _)⟩, by decide⟩
      rw [show Value.int .u8 ((n : Int) % 256) = hb4 n 0 by simp only [hb4]; rfl, Joins.block_setCell hb.out, row5_set (n := n) (i := 0) (by omega)]
    | 1, _ =>
      have hce : wr.cell? ⟨w.heap.size, 2, none⟩ = some (.int .u8 0) := Lib.cell_of_heap hb.out 2
      have hfz : wr.frozen? ⟨w.heap.size, 2, none⟩ = false := by simp [World.frozen?, hb.out]
      go_wp2_with fail
      refine ⟨⟨2, by omega, rfl, Lib.hid ?_, Lib.hid (hon.out.setCell (p := ⟨w.heap.size, 2, none⟩) (Nat.le_refl _) _)⟩, by decide⟩
      rw [show Value.int .u8 ((n : Int) / 256 % 256) = hb4 n 1 by simp only [hb4]; rw [show (n : Int) / 256 % 256 = ((n / 256 % 256 : Nat) : Int) by omega], Joins.block_setCell hb.out, row5_set (n := n) (i := 1) (by omega)]
    | 2, _ =>
      have hce : wr.cell? ⟨w.heap.size, 3, none⟩ = some (.int .u8 0) := Lib.cell_of_heap hb.out 3
      have hfz : wr.frozen? ⟨w.heap.size, 3, none⟩ = false := by simp [World.frozen?, hb.out]
      go_wp2_with fail
      refine ⟨⟨3, by omega, rfl, Lib.hid ?_, Lib.hid (hon.out.setCell (p := ⟨w.heap.size, 3, none⟩) (Nat.le_refl _) _)⟩, by decide⟩
      rw [show Value.int .u8 ((n : Int) / 65536) = hb4 n 2 by simp only [hb4]; rw [show (n : Int) / 65536 = ((n / 65536 % 256 : Nat) : Int) by omega], Joins.block_setCell hb.out, row5_set (n := n) (i := 2) (by omega)]
    | 3, _ =>
      have hce : wr.cell? ⟨w.heap.size, 4, none⟩ = some (.int .u8 0) := Lib.cell_of_heap hb.out 4
      have hfz : wr.frozen? ⟨w.heap.size, 4, none⟩ = false := by simp [World.frozen?, hb.out]
      go_wp2_with fail
      refine ⟨⟨4, by omega, rfl, Lib.hid ?_, Lib.hid (hon.out.setCell (p := ⟨w.heap.size, 4, none⟩) (Nat.le_refl _) _)⟩, by decide⟩
      rw [show Value.int .u8 ((n : Int) / 16777216) = hb4 n 3 by simp only [hb4]; rw [show (n : Int) / 16777216 = 0 by omega], Joins.block_setCell hb.out, row5_set (n := n) (i := 3) (by omega)]
    | 4, _ =>
      have hcv := row5_conv hb.out
      go_wp2_with fail
      go_ret
      exact ⟨rfl, hon.out⟩
end Go.Proofs.YtjidopgohdlfdaaGreatDoor

/-
  The walks of the program's unit.Put and unit.Take. Premises: the listed variables hold what the program's text lays; the text taken is not longer than a thousand million bytes.
-/
namespace Go.Proofs.YtjidopgohdlfdaaGreatDoor
open Go.RowKit Dec Pq S4 Un

set_option maxRecDepth 100000 in
set_option maxHeartbeats 4000000 in
theorem uput_any {w : World} {A : Option Addr} {c : Nat} {u : UM} (h : CmdsAt w A u) (hu : OkL u) (hT : Tab w) (hF : C14.Tab w) :
    Calls Tryz.prog 10 #[.agg #[.slice A u.length c]] w fun e w' => PutEnd (putU (uu u)) e ∧ Below w.heap.size w w' := by
  have hb0 := Lib.hid (one_box (w := w) (cs := #[.slice A u.length c]) (t := 24))
  have hz := Lib.hid (heap_alloc_new w (.cells #[.slice A u.length c] 24))
  have hLd := load_any (c := c) (h.on (W' := w.alloc (.cells #[.slice A u.length c] 24)) one_box) hu (hT.on one_box)
  have hFb : ∀ w', Below w.heap.size w w' → C14.Tab w' := fun w' hb i hi => (hb.cell (C14.cell_lt (hF i hi))).trans (hF i hi)
  have hFH := Lib.hid hFb
  have hP : Hid (putU (uu u) = match loadR u with | .inl k => .inl k | .inr l => .inr (bytesU (uu u))) := Lib.hid (by
    unfold putU loadR
    rw [may_uu]
    split
    · rfl
    · split <;> rfl)
  obtain ⟨R, hR⟩ : ∃ R, R = putU (uu u) := ⟨_, rfl⟩
  rw [← hR]
  have hRH := Lib.hid (hR.trans hP.out)
  clear h hu hT hF hFb hP hR
  cases hl : loadR u with
  | inl k =>
    have hk0 := (loadR_inl hl).1
    have k1 : (k == 0) = false := beq_false_of_ne hk0
    have k2 : (k != 0) = true := by simpa using hk0
    have hLH : Hid (Calls Tryz.prog 20 #[.slice A u.length c] (w.alloc (.cells #[.slice A u.length c] 24)) fun e w' => e = .returned (.tuple #[.string ⟨#[]⟩, .int .i64 k]) ∧ Below (w.alloc (.cells #[.slice A u.length c] 24)).heap.size (w.alloc (.cells #[.slice A u.length c] 24)) w') := Lib.hid (by rw [hl] at hLd; exact hLd)
    rw [hl] at hRH
    clear hLd hl hk0
    go_enter Tryz.func10, Tryz.ntmps10
    go_upto_region 1 with fail
    generalize (w.alloc (.cells #[.slice A u.length c] 24)) = W at hb0 hz hLH ⊢
    have c0 : W.cell? ⟨w.heap.size, 0, none⟩ = some (.slice A u.length c) := Lib.cell_of_heap hz.out 0
    go_wp2_with (go_at_call 20; ((with_reducible refine hLH.out.mono ?_); rintro e w4 ⟨rfl, hb4⟩))
    go_ret2
    exact ⟨by rw [hRH.out]; rfl, hb0.out.trans (hb4.mono hb0.out.size)⟩
  | inr l =>
    obtain ⟨hmay, hlu⟩ := loadR_inr hl
    have hll : l.length ≤ 4194304 := by
      unfold loadR at hl
      rw [if_neg (by rw [hmay]; decide)] at hl
      split at hl
      · cases hl
      · rw [hlu]; omega
    have k1 : ((0 : Int) == 0) = true := rfl
    have k2 : ((0 : Int) != 0) = false := rfl
    have hLH : Hid (Calls Tryz.prog 20 #[.slice A u.length c] (w.alloc (.cells #[.slice A u.length c] 24)) fun e w' => e = .returned (.tuple #[.string ⟨l.toArray⟩, .int .i64 0]) ∧ Below (w.alloc (.cells #[.slice A u.length c] 24)).heap.size (w.alloc (.cells #[.slice A u.length c] 24)) w') := Lib.hid (by rw [hl] at hLd; exact hLd)
    rw [hl] at hRH
    have hHd := Lib.hid (fun X => uhead_any l.length hll X)
    have hSl : Hid (∀ X, Below w.heap.size w X → Calls Tryz.prog 21 #[.string ((⟨(lenL l.length).toArray⟩ : ByteArray) ++ ⟨l.toArray⟩)] X fun e w' => e = .returned (.string ⟨(bytesU (uu u)).toArray⟩) ∧ Below X.heap.size X w') := Lib.hid (fun X hX => by
      have hq := C14.seal_any ((⟨(lenL l.length).toArray⟩ : ByteArray) ++ ⟨l.toArray⟩) (by rw [ByteArray.size_append, arr_size, arr_size, lenL_len]; omega) X (hFH.out X hX)
      have e := seal_at (p := ⟨(lenL l.length).toArray⟩) (b := ⟨l.toArray⟩) (u := u) (by rw [arr_size]) (by rw [← hlu])
      rw [e] at hq
      exact hq.mono (fun e w' hh => ⟨hh.1, hh.2.below (Nat.le_refl _) (fun k hk => by simp at hk)⟩))
    have hzs : (⟨l.toArray⟩ : ByteArray).size = l.length := arr_size l
    have hzh : (⟨(lenL l.length).toArray⟩ : ByteArray).size = 5 := rfl
    have hq1 : (⟨(lenL l.length).toArray⟩ : ByteArray).size + (⟨l.toArray⟩ : ByteArray).size ≤ 9223372036854775807 := by omega
    clear hLd hl hmay hlu
    generalize l.length = n at *
    generalize (⟨l.toArray⟩ : ByteArray) = b at *
    generalize (⟨(lenL n).toArray⟩ : ByteArray) = p at *
    subst hzs
    go_enter Tryz.func10, Tryz.ntmps10
    go_upto_region 1 with fail
    generalize (w.alloc (.cells #[.slice A u.length c] 24)) = W at hb0 hz hLH ⊢
    have c0 : W.cell? ⟨w.heap.size, 0, none⟩ = some (.slice A u.length c) := Lib.cell_of_heap hz.out 0
    go_upto_region 4 with (go_at_call 20; ((with_reducible refine hLH.out.mono ?_); rintro e w4 ⟨rfl, hb4⟩))
    have hb4H := Lib.hid (hb0.out.trans (hb4.mono hb0.out.size))
    clear hb4 c0
    go_wp2_with (first
      | (go_at_call 22; ((with_reducible refine (hHd.out _).mono ?_); rintro e w5 ⟨rfl, hb5⟩; have hb5H := Lib.hid (hb4H.out.trans (hb5.mono hb4H.out.size)); clear hb5))
      | (go_at_call 21; ((with_reducible refine (hSl.out _ hb5H.out).mono ?_); rintro e w6 ⟨rfl, hb6⟩)))
    go_ret2
    exact ⟨by rw [hRH.out]; rfl, hb5H.out.trans (hb6.mono hb5H.out.size)⟩
/-- Take by its parts. -/
theorem takeU_parts (l : List UInt8) : takeU l = match extR l with
    | .inl k => .inl k
    | .inr n => if sealL (l.take (n - 4)) ≠ l.take n then .inl 14 else match cmdR (bodyAt l) with
      | .inl k => .inl k
      | .inr u => .inr (u, n) := by
  unfold takeU extR cmdR
  split
  · rfl
  split
  · rfl
  split
  · rfl
  split
  · rfl
  split
  · rfl
  simp only [show len4 l + 9 - 4 = len4 l + 5 by omega]
  split
  · rfl
  · split <;> rfl
theorem extR_some {l : List UInt8} {n : Nat} (h : extR l = .inr n) : n = len4 l + 9 ∧ n ≤ l.length ∧ len4 l ≤ 4194304 := by
  unfold extR at h
  split at h
  · cases h
  split at h
  · cases h
  split at h
  · cases h
  split at h
  · cases h
  split at h
  · cases h
  obtain rfl := Sum.inr.inj h
  exact ⟨rfl, by omega, by omega⟩
theorem cmdR_may {l : List UInt8} {u : U} (h : cmdR l = .inr u) : mayU u = true := by
  unfold cmdR at h
  split at h
  · rename_i h1
    obtain rfl := Sum.inr.inj h
    exact h1.1
  · cases h
theorem cmdR_err {l : List UInt8} {k : Int} (h : cmdR l = .inl k) : k = 5 := by
  unfold cmdR at h
  split at h
  · cases h
  · exact (Sum.inl.inj h).symm
theorem fits_take {s : ByteArray} {n : Nat} (h4 : 4 ≤ n) (hn : n ≤ s.size) : C14.fitsB (s.extract 0 n) = decide (sealL (s.data.toList.take (n - 4)) = s.data.toList.take n) := by
  unfold C14.fitsB
  have hz : (s.extract 0 n).size = n := by simp; omega
  rw [hz, decide_eq_true h4, Bool.true_and]
  have e : (s.extract 0 n).extract 0 (n - 4) = s.extract 0 (n - 4) := by
    rw [ByteArray.extract_extract]
    simp
  rw [e, Lib.toList_data, Lib.toList_data, ← sealL_eq]
  rw [show (s.extract 0 (n - 4)).data.toList = s.data.toList.take (n - 4) by simp, show (s.extract 0 n).data.toList = s.data.toList.take n by simp]
  rw [Bool.eq_iff_iff]
  simp
set_option maxRecDepth 100000 in
set_option maxHeartbeats 4000000 in
theorem utake_any (s : ByteArray) (w : World) (hs : s.size ≤ 1000000000) (hT : Tab w) (hE : ErrAt w) (hF : C14.Tab w) :
    Calls Tryz.prog 14 #[.string s] w fun e w' => TakeEnd w.heap.size (takeU s.data.toList) e w' ∧ Below w.heap.size w w' := by
  have hb0 := Lib.hid (one_box (w := w) (cs := #[.slice none 0 0]) (t := 24))
  have hz := Lib.hid (heap_alloc_new w (.cells #[.slice none 0 0] 24))
  have hFH : Hid (∀ w', Below w.heap.size w w' → C14.Tab w') := Lib.hid (fun w' hb i hi => (hb.cell (C14.cell_lt (hF i hi))).trans (hF i hi))
  have hTH := Lib.hid hT
  have hEH := Lib.hid hE
  have hP := Lib.hid (takeU_parts s.data.toList)
  have hX := extent_any s (by omega) (w.alloc (.cells #[.slice none 0 0] 24))
  obtain ⟨R, hR⟩ : ∃ R, R = takeU s.data.toList := ⟨_, rfl⟩
  rw [← hR]
  have hRH := Lib.hid (hR.trans hP.out)
  clear hT hE hF hP hR
  cases hx : extR s.data.toList with
  | inl k =>
    rw [hx] at hX hRH
    have hX1 : Hid (Calls Tryz.prog 29 #[.string s] (w.alloc (.cells #[.slice none 0 0] 24)) fun e w' => e = .returned (.tuple #[.int .i64 0, .int .i64 k]) ∧ (w.alloc (.cells #[.slice none 0 0] 24)) = w') := Lib.hid (hX.mono (fun e w' hh => ⟨hh.1.2, hh.2⟩))
    have hk0 : k ≠ 0 := by
      intro e
      subst e
      unfold extR at hx
      split at hx
      · cases hx
      split at hx
      · cases hx
      split at hx
      · cases hx
      split at hx
      · cases hx
      split at hx <;> cases hx
    have k1 : (k == 0) = false := beq_false_of_ne hk0
    have k2 : (k != 0) = true := by simpa using hk0
    clear hX hx hk0
    go_enter Tryz.func14, Tryz.ntmps14
    go_upto_region 1 with fail
    generalize (w.alloc (.cells #[.slice none 0 0] 24)) = W at hb0 hz hX1 ⊢
    have c0 : W.cell? ⟨w.heap.size, 0, none⟩ = some (.slice none 0 0) := Lib.cell_of_heap hz.out 0
    have g0 := Lib.frozen_of_heap hz.out 0
    go_wp2_with (go_at_call 29; ((with_reducible refine hX1.out.mono ?_); rintro e w1 ⟨rfl, rfl⟩))
    have e0 : (W.setCell ⟨w.heap.size, 0, none⟩ (.slice none 0 0)).cell? ⟨w.heap.size, 0, none⟩ = some (.slice none 0 0) := Lib.cell_of_heap (set_one hz.out (.slice none 0 0)) 0
    refine bodyPost_ret (v := .tuple #[.agg #[.slice none 0 0], .int .i64 0, .int .i64 k]) (by simp [results, Tryz.results14, go_sem, e0]) rfl ⟨?_, ?_⟩
    · rw [hRH.out]; rfl
    · exact hb0.out.setCell (p := ⟨w.heap.size, 0, none⟩) (Nat.le_refl _) _
  | inr n =>
    obtain ⟨hn9, hnl, hn4⟩ := extR_some hx
    rw [size_len] at hnl
    rw [hx] at hX hRH
    have hX1 : Hid (Calls Tryz.prog 29 #[.string s] (w.alloc (.cells #[.slice none 0 0] 24)) fun e w' => e = .returned (.tuple #[.int .i64 (n : Nat), .int .i64 0]) ∧ (w.alloc (.cells #[.slice none 0 0] 24)) = w') := Lib.hid (hX.mono (fun e w' hh => hh))
    have hRn : Hid (R = if sealL (s.data.toList.take (n - 4)) ≠ s.data.toList.take n then .inl 14 else match cmdR (bodyAt s.data.toList) with | .inl k => .inl k | .inr u => .inr (u, n)) := hRH
    have hft := fits_take (s := s) (n := n) (by omega) hnl
    have hFt := fun X (hXb : Below w.heap.size w X) => C14.fits_any (s.extract 0 n) (by simp; omega) X (hFH.out X hXb)
    rw [hft] at hFt
    have hbd : Hid (bodyAt s.data.toList = (s.extract 5 (n - 4)).data.toList) := Lib.hid (by unfold bodyAt; rw [hn9]; simp [List.drop_take])
    have hbz : (s.extract 5 (n - 4)).size ≤ 4194304 := by simp; omega
    have z0 : (0 : Int) ≤ (n : Int) := by omega
    have z1 : (n : Int) ≤ (s.size : Int) := by omega
    have k1 : ((0 : Int) == 0) = true := rfl
    have k2 : ((0 : Int) != 0) = false := rfl
    have hn9' : 9 ≤ n := by omega
    clear hX hx hft hRH hn9 hn4
    by_cases hsum : sealL (s.data.toList.take (n - 4)) = s.data.toList.take n
    case neg =>
      have hFo : Hid (∀ X, Below w.heap.size w X → Calls Tryz.prog 30 #[.string (s.extract 0 n)] X fun e w' => e = .returned (.bool false) ∧ Below X.heap.size X w') := Lib.hid (fun X hX => (hFt X hX).mono (fun e w' hh => ⟨by rw [hh.1, decide_eq_false hsum], hh.2.below (Nat.le_refl _) (fun k hk => by simp at hk)⟩))
      have hRe : Hid (R = .inl 14) := Lib.hid (by rw [hRn.out, if_pos hsum])
      clear hFt hsum hRn hbd hbz hn9'
      go_enter Tryz.func14, Tryz.ntmps14
      go_upto_region 1 with fail
      generalize (w.alloc (.cells #[.slice none 0 0] 24)) = W at hb0 hz hX1 ⊢
      go_upto_region 4 with (go_at_call 29; ((with_reducible refine hX1.out.mono ?_); rintro e w1 ⟨rfl, rfl⟩))
      go_upto_region 5 with (go_at_call 30; ((with_reducible refine (hFo.out _ hb0.out).mono ?_); rintro e w2 ⟨rfl, hb2⟩))
      have hz2 := Lib.hid ((hb2.block w.heap.size (heap_lt hz.out)).trans hz.out)
      have hb2H := Lib.hid (hb0.out.trans (hb2.mono hb0.out.size))
      have c0 : w2.cell? ⟨w.heap.size, 0, none⟩ = some (.slice none 0 0) := Lib.cell_of_heap hz2.out 0
      have g0 := Lib.frozen_of_heap hz2.out 0
      clear hb2
      go_wp2_with fail
      have e0 : (w2.setCell ⟨w.heap.size, 0, none⟩ (.slice none 0 0)).cell? ⟨w.heap.size, 0, none⟩ = some (.slice none 0 0) := Lib.cell_of_heap (set_one hz2.out (.slice none 0 0)) 0
      refine bodyPost_ret (v := .tuple #[.agg #[.slice none 0 0], .int .i64 0, .int .i64 14]) (by simp [results, Tryz.results14, go_sem, e0]) rfl ⟨?_, ?_⟩
      · rw [hRe.out]; rfl
      · exact hb2H.out.setCell (p := ⟨w.heap.size, 0, none⟩) (Nat.le_refl _) _
    have hFo : Hid (∀ X, Below w.heap.size w X → Calls Tryz.prog 30 #[.string (s.extract 0 n)] X fun e w' => e = .returned (.bool true) ∧ Below X.heap.size X w') := Lib.hid (fun X hX => (hFt X hX).mono (fun e w' hh => ⟨by rw [hh.1, decide_eq_true hsum], hh.2.below (Nat.le_refl _) (fun k hk => by simp at hk)⟩))
    have hRe : Hid (R = match cmdR (bodyAt s.data.toList) with | .inl k => .inl k | .inr u => .inr (u, n)) := Lib.hid (by rw [hRn.out, if_neg (fun e => e hsum)])
    have hCo := fun X (hXb : Below w.heap.size w X) => commands_any (s.extract 5 (n - 4)) X hbz (hTH.out.on hXb) (hEH.out.on hXb)
    obtain ⟨nb, hnb⟩ : ∃ nb : Nat, nb = n - 4 := ⟨_, rfl⟩
    have hni : (n : Int) - 4 = (nb : Int) := by omega
    have hnw := IntWalk.i64_in ((n : Int) - 4) (by omega)
    have z2 : (5 : Int) ≤ (nb : Int) := by omega
    have z3 : (nb : Int) ≤ (s.size : Int) := by omega
    rw [hbd.out] at hRe
    rw [← hnb] at hRe hCo
    clear hFt hsum hRn hbd hbz hn9' hnb
    cases hc : cmdR (s.extract 5 nb).data.toList with
    | inl k =>
      obtain rfl := cmdR_err hc
      rw [hc] at hCo hRe
      have hCH : Hid (∀ X, Below w.heap.size w X → Calls Tryz.prog 31 #[.string (s.extract 5 nb)] X fun e w' => e = .returned (.tuple #[.slice none 0 0, .int .i64 5]) ∧ Below X.heap.size X w') := Lib.hid hCo
      have k3 : ((5 : Int) == 0) = false := rfl
      have k4 : ((5 : Int) != 0) = true := rfl
      clear hCo hc
      go_enter Tryz.func14, Tryz.ntmps14
      go_upto_region 1 with fail
      generalize (w.alloc (.cells #[.slice none 0 0] 24)) = W at hb0 hz hX1 ⊢
      go_upto_region 4 with (go_at_call 29; ((with_reducible refine hX1.out.mono ?_); rintro e w1 ⟨rfl, rfl⟩))
      go_upto_region 6 with (go_at_call 30; ((with_reducible refine (hFo.out _ hb0.out).mono ?_); rintro e w2 ⟨rfl, hb2⟩))
      have hb2H := Lib.hid (hb0.out.trans (hb2.mono hb0.out.size))
      have hz2 := Lib.hid ((hb2.block w.heap.size (heap_lt hz.out)).trans hz.out)
      clear hb2
      go_upto_region 8 with (go_at_call 31; ((with_reducible refine (hCH.out _ hb2H.out).mono ?_); rintro e w3 ⟨rfl, hb3⟩))
      have hb3H := Lib.hid (hb2H.out.trans (hb3.mono hb2H.out.size))
      have hz3 := Lib.hid ((hb3.block w.heap.size (heap_lt hz2.out)).trans hz2.out)
      have c0 : w3.cell? ⟨w.heap.size, 0, none⟩ = some (.slice none 0 0) := Lib.cell_of_heap hz3.out 0
      have g0 := Lib.frozen_of_heap hz3.out 0
      clear hb3
      go_wp2_with fail
      have e0 : (w3.setCell ⟨w.heap.size, 0, none⟩ (.slice none 0 0)).cell? ⟨w.heap.size, 0, none⟩ = some (.slice none 0 0) := Lib.cell_of_heap (set_one hz3.out (.slice none 0 0)) 0
      refine bodyPost_ret (v := .tuple #[.agg #[.slice none 0 0], .int .i64 0, .int .i64 5]) (by simp [results, Tryz.results14, go_sem, e0]) rfl ⟨?_, ?_⟩
      · rw [hRe.out]; rfl
      · exact hb3H.out.setCell (p := ⟨w.heap.size, 0, none⟩) (Nat.le_refl _) _
    | inr u =>
      have hmu := cmdR_may hc
      rw [hc] at hCo hRe
      have hCH : Hid (∀ X, Below w.heap.size w X → Calls Tryz.prog 31 #[.string (s.extract 5 nb)] X fun e w' => (∃ (m : UM) (A : Option Addr) (c : Nat), uu m = u ∧ CmdsOk w' (fun b => X.heap.size ≤ b) A m ∧ e = .returned (.tuple #[.slice A m.length c, .int .i64 0])) ∧ Below X.heap.size X w') := Lib.hid hCo
      have hmuH := Lib.hid hmu
      clear hCo hc hmu
      go_enter Tryz.func14, Tryz.ntmps14
      go_upto_region 1 with fail
      generalize (w.alloc (.cells #[.slice none 0 0] 24)) = W at hb0 hz hX1 ⊢
      go_upto_region 4 with (go_at_call 29; ((with_reducible refine hX1.out.mono ?_); rintro e w1 ⟨rfl, rfl⟩))
      go_upto_region 6 with (go_at_call 30; ((with_reducible refine (hFo.out _ hb0.out).mono ?_); rintro e w2 ⟨rfl, hb2⟩))
      have hb2H := Lib.hid (hb0.out.trans (hb2.mono hb0.out.size))
      have hz2 := Lib.hid ((hb2.block w.heap.size (heap_lt hz.out)).trans hz.out)
      clear hb2
      go_upto_region 9 with (go_at_call 31; ((with_reducible refine (hCH.out _ hb2H.out).mono ?_); rintro e w3 ⟨⟨m, A, c, hm, hCm, rfl⟩, hb3⟩))
      have hb3H := Lib.hid (hb2H.out.trans (hb3.mono hb2H.out.size))
      have hz3 := Lib.hid ((hb3.block w.heap.size (heap_lt hz2.out)).trans hz2.out)
      have c0 : w3.cell? ⟨w.heap.size, 0, none⟩ = some (.slice none 0 0) := Lib.cell_of_heap hz3.out 0
      have g0 := Lib.frozen_of_heap hz3.out 0
      have hmH := Lib.hid hm
      have hCmH := Lib.hid hCm
      clear hb3 hm hCm
      go_wp2_with fail
      have e0 : (w3.setCell ⟨w.heap.size, 0, none⟩ (.slice A m.length c)).cell? ⟨w.heap.size, 0, none⟩ = some (.slice A m.length c) := Lib.cell_of_heap (set_one hz3.out (.slice A m.length c)) 0
      refine bodyPost_ret (v := .tuple #[.agg #[.slice A m.length c], .int .i64 (n : Int), .int .i64 0]) (by simp [results, Tryz.results14, go_sem, e0]) rfl ⟨?_, ?_⟩
      · rw [hRe.out]
        refine ⟨m, A, c, hmH.out, ?_, rfl⟩
        have hme : ∀ ss ∈ m, 1 ≤ ss.length := fun ss hss => by
          have hmay := hmuH.out
          rw [← hmH.out, may_uu] at hmay
          unfold mayB at hmay
          rw [Bool.and_eq_true, List.all_eq_true] at hmay
          have := hmay.2 ss hss
          unfold mayC at this
          rw [Bool.and_eq_true, Bool.and_eq_true] at this
          exact of_decide_eq_true this.1.1
        exact (hCmH.out.keep (fun _ _ _ => rfl) (Nat.le_refl _) (fun b hb _ => Nat.le_trans hb2H.out.size hb)).poke hme c0 _
      · exact hb3H.out.setCell (p := ⟨w.heap.size, 0, none⟩) (Nat.le_refl _) _
end Go.Proofs.YtjidopgohdlfdaaGreatDoor

/-
  The walks of the program's unit.Same and of what it calls. Premises: both units lie in memory, and their lengths are Go's own.
-/
namespace Go.Proofs.YtjidopgohdlfdaaGreatDoor
open Go.RowKit Dec Pq S4 Un

theorem drewN_more {w wr w1 : World} (h : ∃ m, wr = w.drewN m) (h1 : ∃ n, w1 = wr.drewN n) : ∃ m, w1 = w.drewN m := by
  obtain ⟨n, rfl⟩ := h1
  exact drewN_trans h n
set_option maxRecDepth 100000 in
set_option maxHeartbeats 4000000 in
theorem equal_any {w : World} {A A' : Option Addr} {c c' : Nat} {ss tt : List ByteArray} (h : SOk w Tr A ss) (h' : SOk w Tr A' tt) (hl : ss.length ≤ 140737488355328) (_hl' : tt.length ≤ 140737488355328) :
    Calls Tryz.prog 27 #[.slice A ss.length c, .slice A' tt.length c'] w fun e w' => e = .returned (.bool (decide (ss = tt))) ∧ ∃ n, w' = w.drewN n := by
  obtain ⟨T, hT⟩ : ∃ T, decide (ss = tt) = T := ⟨_, rfl⟩
  rw [hT]
  have hTH : Hid (T = true ↔ ss = tt) := Lib.hid (by rw [← hT]; exact decide_eq_true_iff)
  clear hT
  by_cases hk : ss.length = tt.length
  case neg =>
    have e : Hid (T = false) := Lib.hid (by
      cases T with
      | false => rfl
      | true => exact absurd (congrArg List.length (hTH.out.1 rfl)) hk)
    have k1 : ((ss.length : Int) == (tt.length : Int)) = false := by simp; omega
    have k2 : ((ss.length : Int) != (tt.length : Int)) = true := by simp; omega
    have k3 : (ss.length == tt.length) = false := by simpa using hk
    have k4 : (ss.length != tt.length) = true := by simpa using hk
    clear hk
    go_enter Tryz.func27, Tryz.ntmps27
    go_wp2_with fail
    go_ret
    exact ⟨ret_bool e.out.symm, 0, rfl⟩
  have hkH := Lib.hid hk
  have hSH := Lib.hid h
  have hSH' := Lib.hid h'
  rw [← hk]
  clear hk h h'
  go_enter Tryz.func27, Tryz.ntmps27
  go_wp2_with fail
  go_loopw [13] (fun i wr => ∃ k : Nat, i = .int .i64 k ∧ k ≤ ss.length ∧ Hid (T = true ↔ ss.drop k = tt.drop k) ∧ Hid (∃ n, wr = w.drewN n)) (fun i _ => ss.length - (intOf i).toNat)
  case atStart => exact ⟨0, rfl, by omega, hTH, Lib.hid ⟨0, rfl⟩⟩
  case round =>
    clear hTH
    obtain ⟨k, rfl, hk, hD, hW⟩ := hrel
    obtain ⟨n, hm⟩ := hW.out
    by_cases hlt : k < ss.length
    · have hlt' : k < tt.length := by have := hkH.out; omega
      obtain ⟨x, hx⟩ : ∃ x, ss[k]? = some x := ⟨_, List.getElem?_eq_getElem hlt⟩
      obtain ⟨y, hy⟩ : ∃ x, tt[k]? = some x := ⟨_, List.getElem?_eq_getElem hlt'⟩
      obtain ⟨a, rfl, _, _, hc⟩ := hSH.out k x hx
      obtain ⟨b, rfl, _, _, hd⟩ := hSH'.out k y hy
      have hix := run_ixK a k ss.length c hlt
      have hix' := run_ixK b k ss.length c' hlt
      have hw0 : wr.cell? (a.add k) = some (.string x) := by rw [hm]; exact hc
      have hw1 : wr.cell? (b.add k) = some (.string y) := by rw [hm]; exact hd
      have hN : Hid (T = true ↔ x = y ∧ ss.drop (k + 1) = tt.drop (k + 1)) := Lib.hid (hD.out.trans (drop_iff hx hy))
      have hltH := Lib.hid hlt
      have dk : decide ((k : Int) < (ss.length : Int)) = true := decide_eq_true (by omega)
      have dk2 : decide (k < ss.length) = true := decide_eq_true hlt
      clear hx hy hD hlt hlt' hm hc hd
      by_cases hq : x = y
      case neg =>
        have e : Hid (T = false) := Lib.hid (by
          cases T with
          | false => rfl
          | true => exact absurd (hN.out.1 rfl).1 hq)
        have k1 : (x.toList == y.toList) = false := by
          rw [beq_eq_false_iff_ne]
          exact fun e => hq (C14.ba_eq e)
        have k2 : (x.toList != y.toList) = true := by rw [bne, k1]; rfl
        clear hq
        go_wp2_with fail
        go_quiet (fail)
        go_wp2_with fail
        go_ret
        exact ⟨ret_bool e.out.symm, drewN_trans hW.out _⟩
      subst hq
      have hN2 : Hid (T = true ↔ ss.drop (k + 1) = tt.drop (k + 1)) := Lib.hid (hN.out.trans ⟨fun h => h.2, fun h => ⟨rfl, h⟩⟩)
      have k1 : (x.toList == x.toList) = true := by simp
      have k2 : (x.toList != x.toList) = false := by simp
      go_wp2_with fail
      go_quiet (fail)
      go_wp2_with fail
      go_roundw
      case rel => exact ⟨k + 1, by go_num, by have := hltH.out; omega, hN2, Lib.hid (drewN_trans hW.out _)⟩
      case measure => have := hltH.out; simp [intOf]; omega
    · have hE : Hid (T = true) := Lib.hid (hD.out.2 (by have := hkH.out; rw [List.drop_of_length_le (by omega), List.drop_of_length_le (by omega)]))
      have dk : decide ((k : Int) < (ss.length : Int)) = false := decide_eq_false (by omega)
      have dk2 : decide (k < ss.length) = false := decide_eq_false hlt
      clear hlt hm
      go_wp2_with fail
      go_ret
      exact ⟨ret_bool hE.out.symm, hW.out⟩
theorem usame1_any {w : World} {A A' : Option Addr} {c c' : Nat} {ss tt : List ByteArray} (h : SOk w Tr A ss) (h' : SOk w Tr A' tt) (hl : ss.length ≤ 140737488355328) (hl' : tt.length ≤ 140737488355328) :
    Calls Tryz.prog 26 #[.slice A ss.length c, .slice A' tt.length c'] w fun e w' => e = .returned (.bool (decide (ss = tt))) ∧ ∃ n, w' = w.drewN n := by
  have hE := Lib.hid (equal_any (c := c) (c' := c') h h' hl hl')
  clear h h'
  go_enter Tryz.func26, Tryz.ntmps26
  go_wp2_with (go_at_call 27; ((with_reducible refine hE.out.mono ?_); rintro e w1 ⟨rfl, hn⟩))
  go_ret
  exact ⟨rfl, hn⟩
set_option maxRecDepth 100000 in
set_option maxHeartbeats 4000000 in
theorem equalF_any {w : World} {A A' : Option Addr} {c c' : Nat} {u v : UM} (h : CmdsAt w A u) (h' : CmdsAt w A' v) (hu : OkL u) (hv : OkL v) :
    Calls Tryz.prog 28 #[.slice A u.length c, .slice A' v.length c', .func (.func 26) #[] #[]] w fun e w' => e = .returned (.bool (decide (u = v))) ∧ ∃ n, w' = w.drewN n := by
  obtain ⟨T, hT⟩ : ∃ T, decide (u = v) = T := ⟨_, rfl⟩
  rw [hT]
  have hTH : Hid (T = true ↔ u = v) := Lib.hid (by rw [← hT]; exact decide_eq_true_iff)
  have hul := hu.1
  have hvl := hv.1
  clear hT
  by_cases hk : u.length = v.length
  case neg =>
    have e : Hid (T = false) := Lib.hid (by
      cases T with
      | false => rfl
      | true => exact absurd (congrArg List.length (hTH.out.1 rfl)) hk)
    have k1 : ((u.length : Int) == (v.length : Int)) = false := by simp; omega
    have k2 : ((u.length : Int) != (v.length : Int)) = true := by simp; omega
    have k3 : (u.length == v.length) = false := by simpa using hk
    have k4 : (u.length != v.length) = true := by simpa using hk
    clear hk
    go_enter Tryz.func28, Tryz.ntmps28
    go_wp2_with fail
    go_ret
    exact ⟨ret_bool e.out.symm, 0, rfl⟩
  have hkH := Lib.hid hk
  have hSH := Lib.hid h
  have hSH' := Lib.hid h'
  have huH := Lib.hid hu.2
  have hvH := Lib.hid hv.2
  rw [← hk]
  clear hk h h' hu hv
  go_enter Tryz.func28, Tryz.ntmps28
  go_wp2_with fail
  go_loopw [17] (fun i wr => ∃ k : Nat, i = .int .i64 k ∧ k ≤ u.length ∧ Hid (T = true ↔ u.drop k = v.drop k) ∧ Hid (∃ n, wr = w.drewN n)) (fun i _ => u.length - (intOf i).toNat)
  case atStart => exact ⟨0, rfl, by omega, hTH, Lib.hid ⟨0, rfl⟩⟩
  case round =>
    clear hTH
    obtain ⟨k, rfl, hk, hD, hW⟩ := hrel
    obtain ⟨n, hm⟩ := hW.out
    by_cases hlt : k < u.length
    · have hlt' : k < v.length := by have := hkH.out; omega
      obtain ⟨ss, hx⟩ : ∃ x, u[k]? = some x := ⟨_, List.getElem?_eq_getElem hlt⟩
      obtain ⟨tt, hy⟩ : ∃ x, v[k]? = some x := ⟨_, List.getElem?_eq_getElem hlt'⟩
      obtain ⟨a, rfl, _, Ai, ci, hc, hS⟩ := hSH.out k ss hx
      obtain ⟨b, rfl, _, Bi, di, hd, hS'⟩ := hSH'.out k tt hy
      have hix := run_ixC a k u.length c hlt
      have hix' := run_ixC b k u.length c' hlt
      have hw0 : wr.cell? (a.add k) = some (.slice Ai ss.length ci) := by rw [hm]; exact hc
      have hw1 : wr.cell? (b.add k) = some (.slice Bi tt.length di) := by rw [hm]; exact hd
      have hC := Lib.hid (usame1_any (w := wr) (c := ci) (c' := di) (by rw [hm]; exact hS) (by rw [hm]; exact hS') (huH.out ss (List.mem_of_getElem? hx)) (hvH.out tt (List.mem_of_getElem? hy)))
      have hN : Hid (T = true ↔ ss = tt ∧ u.drop (k + 1) = v.drop (k + 1)) := Lib.hid (hD.out.trans (drop_iff hx hy))
      have hltH := Lib.hid hlt
      have dk : decide ((k : Int) < (u.length : Int)) = true := decide_eq_true (by omega)
      have dk2 : decide (k < u.length) = true := decide_eq_true hlt
      clear hx hy hD hlt hlt' hm hc hd hS hS'
      by_cases hq : ss = tt
      case neg =>
        have e : Hid (T = false) := Lib.hid (by
          cases T with
          | false => rfl
          | true => exact absurd (hN.out.1 rfl).1 hq)
        rw [decide_eq_false hq] at hC
        clear hq
        go_wp2_with (go_at_call 26; ((with_reducible refine hC.out.mono ?_); rintro e w1 ⟨rfl, hn⟩))
        go_ret
        exact ⟨ret_bool e.out.symm, drewN_more hW.out hn⟩
      rw [decide_eq_true hq] at hC
      have hN2 : Hid (T = true ↔ u.drop (k + 1) = v.drop (k + 1)) := Lib.hid (hN.out.trans ⟨fun h => h.2, fun h => ⟨hq, h⟩⟩)
      clear hq
      go_wp2_with (go_at_call 26; ((with_reducible refine hC.out.mono ?_); rintro e w1 ⟨rfl, hn⟩))
      have hnH := Lib.hid (drewN_more hW.out hn)
      clear hn
      go_roundw
      case rel => exact ⟨k + 1, by go_num, by have := hltH.out; omega, hN2, hnH⟩
      case measure => have := hltH.out; simp [intOf]; omega
    · have hE : Hid (T = true) := Lib.hid (hD.out.2 (by have := hkH.out; rw [List.drop_of_length_le (by omega), List.drop_of_length_le (by omega)]))
      have dk : decide ((k : Int) < (u.length : Int)) = false := decide_eq_false (by omega)
      have dk2 : decide (k < u.length) = false := decide_eq_false hlt
      clear hlt hm
      go_wp2_with fail
      go_ret
      exact ⟨ret_bool hE.out.symm, hW.out⟩
theorem same_any {w : World} {A A' : Option Addr} {c c' : Nat} {u v : UM} (h : CmdsAt w A u) (h' : CmdsAt w A' v) (hu : OkL u) (hv : OkL v) :
    Calls Tryz.prog 12 #[.agg #[.slice A u.length c], .agg #[.slice A' v.length c']] w fun e w' => e = .returned (.bool (decide (u = v))) ∧ Below w.heap.size w w' := by
  have hE := Lib.hid (equalF_any (c := c) (c' := c') (h.on (W' := (w.alloc (.cells #[.slice A u.length c] 24)).alloc (.cells #[.slice A' v.length c'] 24)) two_box) (h'.on two_box) hu hv)
  have hL := Lib.hid (two_box (w := w) (cs := #[.slice A u.length c]) (ds := #[.slice A' v.length c']) (t := 24))
  have hb1 : Hid (((w.alloc (.cells #[.slice A u.length c] 24)).alloc (.cells #[.slice A' v.length c'] 24)).heap[w.heap.size]? = some (.cells #[.slice A u.length c] 24 (0, 0))) := Lib.hid (by
    rw [Below.heap_alloc _ _ _ (by simp)]; exact heap_alloc_new w _)
  have hb2 : Hid (((w.alloc (.cells #[.slice A u.length c] 24)).alloc (.cells #[.slice A' v.length c'] 24)).heap[w.heap.size + 1]? = some (.cells #[.slice A' v.length c'] 24 (0, 0))) := Lib.hid (by
    have := heap_alloc_new (w.alloc (.cells #[.slice A u.length c] 24)) (.cells #[.slice A' v.length c'] 24)
    simpa using this)
  clear h h' hu hv
  go_enter Tryz.func12, Tryz.ntmps12
  go_upto_region 2 with fail
  generalize ((w.alloc (.cells #[.slice A u.length c] 24)).alloc (.cells #[.slice A' v.length c'] 24)) = W at hL hb1 hb2 hE ⊢
  have c0 : W.cell? ⟨w.heap.size, 0, none⟩ = some (.slice A u.length c) := Lib.cell_of_heap hb1.out 0
  have c1 : W.cell? ⟨w.heap.size + 1, 0, none⟩ = some (.slice A' v.length c') := Lib.cell_of_heap hb2.out 0
  go_wp2_with (go_at_call 28; ((with_reducible refine hE.out.mono ?_); rintro e w1 ⟨rfl, hn⟩))
  go_ret
  obtain ⟨n, rfl⟩ := hn
  exact ⟨rfl, below_drewN hL.out n⟩
end Go.Proofs.YtjidopgohdlfdaaGreatDoor

/-
  The walk of the reference's All: units as they are appended to a row (US). Premise: the text is not longer than 2^40 bytes.
-/
namespace Go.Proofs.YtjidopgohdlfdaaGreatDoor
open Go.RowKit Dec Pq S4 Un

/-- Units' rows as they are appended. -/
structure US (w0 X : World) (v : Value) (xs : List Value) (l : List UM) : Prop where
  own : X.ownsRow w0.heap.size 24 1 v l.length xs
  len : xs.length = l.length
  each : ∀ (i : Nat) (u : UM), l[i]? = some u → ∃ Ai ci, xs[i]? = some (Value.slice Ai u.length ci) ∧ CmdsOk X (fun b => v.ownBlock ≠ some b) Ai u
  bel : Below w0.heap.size w0 X
theorem US.start (w : World) : US w w (.slice none 0 0) [] [] := ⟨World.ownsRow_nil _ _ _ _, rfl, fun i u h => by simp at h, Below.refl _ _⟩
theorem US.on {w0 X Y : World} {v : Value} {xs : List Value} {l : List UM} (h : US w0 X v xs l) (hb : Below X.heap.size X Y) : US w0 Y v xs l := by
  refine ⟨h.own.kept (row := some X.heap.size) (grown_on hb _) (Or.inr fun e => by have := (h.own.lt _ e).2; omega), h.len, fun i u hu => ?_, h.bel.trans (hb.mono h.bel.size)⟩
  obtain ⟨Ai, ci, k1, k2⟩ := h.each i u hu
  exact ⟨Ai, ci, k1, k2.on hb⟩
theorem US.more {w0 X Y Z : World} {v v' : Value} {l : List UM} {u : UM} {A : Option Addr} {c : Nat} {xs : List Value} (h : US w0 X v xs l) (hb : Below X.heap.size X Y)
    (hu : CmdsOk Y (fun b => v.ownBlock ≠ some b) A u) (hown : Z.ownsRow w0.heap.size 24 1 v' (l.length + 1) (xs ++ [.slice A u.length c])) (hg : Y.grownBy Z v.ownBlock) (hloc : v'.ownBlock = v.ownBlock ∨ v'.ownBlock = some Y.heap.size) : US w0 Z v' (xs ++ [.slice A u.length c]) (l ++ [u]) := by
  have hY := h.on hb
  have hkeep : ∀ b, v.ownBlock ≠ some b → b < Y.heap.size → Z.heap[b]? = Y.heap[b]? := fun b hn hl => hg.block b hl (fun e => hn e.symm)
  have hnew : ∀ b, v.ownBlock ≠ some b → b < Y.heap.size → v'.ownBlock ≠ some b := fun b hn hl e => by
    rcases hloc with h1 | h1
    · exact hn (by rw [← h1]; exact e)
    · rw [h1] at e
      have := Option.some.inj e
      omega
  refine ⟨by rw [List.length_append]; exact hown, by rw [List.length_append, List.length_append, h.len]; rfl, fun i x hx => ?_, hY.bel.grown hg hY.bel.size (fun k hk => (hY.own.lt k hk).1)⟩
  by_cases e : i = l.length
  · subst e
    rw [List.getElem?_append_right (Nat.le_refl _), Nat.sub_self] at hx
    obtain rfl : u = x := by simpa using hx
    refine ⟨A, c, by rw [← h.len, List.getElem?_append_right (Nat.le_refl _), Nat.sub_self]; rfl, ?_⟩
    exact hu.keep (fun b hb1 hl => hkeep b hb1 hl) hg.size (fun b hb1 hl => hnew b hb1 hl)
  · have hil : i < l.length := by
      have := (List.getElem?_eq_some_iff.1 hx).1
      rw [List.length_append] at this
      simp at this
      omega
    rw [List.getElem?_append_left hil] at hx
    obtain ⟨Ai, ci, k1, k2⟩ := hY.each i x hx
    exact ⟨Ai, ci, by rw [List.getElem?_append_left (by rw [h.len]; exact hil)]; exact k1, k2.keep (fun b hb1 hl => hkeep b hb1 hl) hg.size (fun b hb1 hl => hnew b hb1 hl)⟩
/-- A row as it is told: none, or a block from its first place on. -/
def RowOk (A : Option Addr) (n c : Nat) : Prop := (A = none ∧ n = 0 ∧ c = 0) ∨ ∃ g, A = some ⟨g, 0, none⟩ ∧ n ≤ c
theorem US.units {w0 X : World} {v : Value} {xs : List Value} {l : List UM} (h : US w0 X v xs l) : ∃ A c, v = .slice A l.length c ∧ UnitsAt X A l ∧ RowOk A l.length c := by
  rcases h.own.2 with ⟨hv, h0⟩ | ⟨gb, cap, cur, hv, hbg, hgb, hle, _⟩
  · exact ⟨none, 0, by rw [hv, h0], (fun i u hu => by rw [List.eq_nil_of_length_eq_zero h0] at hu; simp at hu), Or.inl ⟨rfl, h0, rfl⟩⟩
  · refine ⟨some ⟨gb, 0, none⟩, cap, hv, (fun i u hu => ?_), Or.inr ⟨gb, rfl, hle⟩⟩
    obtain ⟨Ai, ci, k1, k2⟩ := h.each i u hu
    have hob : v.ownBlock = some gb := by rw [hv]; rfl
    exact ⟨⟨gb, 0, none⟩, rfl, (h.own.lt gb hob).2, Ai, ci, h.own.cells hob i _ k1, k2.plain⟩
theorem unit_info : (Tryz.prog.info? 24).map (fun i => (i.zero, i.size, i.bytes)) = some (some (.agg #[.slice none 0 0]), 1, 24) := by kernel_rfl
theorem one_unit (w : World) (x : Value) : ∀ (j : Nat) (u : Value), [x][j]? = some u → (w.alloc (.cells #[x] 24)).cell? ((⟨w.heap.size, 0, none⟩ : Addr).add j) = some u := fun j u hj => by
  match j, hj with
  | 0, hj =>
    simp at hj
    subst hj
    exact Lib.cell_of_heap (heap_alloc_new w _) 0
theorem take_err {s : List UInt8} {e : Int} (h : takeU s = .inl e) : e ≠ 0 := by
  unfold takeU at h
  split at h
  · cases h; decide
  split at h
  · cases h; decide
  split at h
  · cases h; decide
  split at h
  · cases h; decide
  split at h
  · cases h; decide
  split at h
  · cases h; decide
  split at h
  · cases h
  · cases h; decide
/-- How an All ends: units in memory, and how many bytes they have. -/
def AllUEnd (R : List U × Nat) (e : Ending) (w' : World) : Prop := ∃ (l : List UM) (A : Option Addr) (c : Nat), l.map uu = R.1 ∧ UnitsAt w' A l ∧ RowOk A l.length c ∧ e = .returned (.tuple #[.slice A l.length c, .int .i64 (R.2 : Nat)])
set_option maxRecDepth 100000 in
set_option maxHeartbeats 4000000 in
theorem rall15_any (s : ByteArray) (w : World) (hs : s.size ≤ 1099511627776) : Calls Tryz.prog 17 #[.string s] w fun e w' => AllUEnd (allU s.data.toList) e w' ∧ Below w.heap.size w w' := by
  obtain ⟨R, hR⟩ : ∃ R, R = allU s.data.toList := ⟨_, rfl⟩
  rw [← hR]
  have h0 := Lib.hid (US.start w)
  have hR0 : Hid (R = (([] : List UM).map uu ++ (allU (s.data.toList.drop 0)).1, 0 + (allU (s.data.toList.drop 0)).2)) := Lib.hid (by rw [hR]; simp)
  obtain ⟨i0, hi, hz0, hz1, hz2⟩ := info_parts unit_info
  clear hR
  go_enter Tryz.func17, Tryz.ntmps17
  go_wp2_with fail
  go_loopw [4, 5] (fun s4 s5 wr => ∃ (k : Nat) (v : Value) (xs : List Value) (l : List UM), s5 = .int .i64 k ∧ s4 = v ∧ k ≤ s.size ∧ 9 * l.length ≤ k ∧ Hid (US w wr v xs l) ∧ Hid (R = (l.map uu ++ (allU (s.data.toList.drop k)).1, k + (allU (s.data.toList.drop k)).2))) (fun _ s5 _ => s.size - (intOf s5).toNat)
  case atStart => exact ⟨0, _, [], [], rfl, rfl, by omega, by simp, h0, hR0⟩
  case round =>
    clear h0 hR0
    obtain ⟨k, v, xs, l, rfl, rfl, hk, hl9, hU, hRk⟩ := hrel
    obtain ⟨A0, c0, rfl, hUn, hRo⟩ := hU.out.units
    have hUnH := Lib.hid hUn
    have hRoH := Lib.hid hRo
    clear hUn hRo
    have hT := Lib.hid (rtake15_any (s.extract k s.size) wr (by simp; omega))
    have hdr : (s.extract k s.size).data.toList = s.data.toList.drop k := by
      simp
      exact List.take_of_length_le (by rw [List.length_drop, size_len]; omega)
    rw [hdr] at hT
    clear hdr
    have ki : (k : Int) ≤ (s.size : Int) := by omega
    have ki0 : (0 : Int) ≤ (k : Int) := by omega
    cases ht : takeU (s.data.toList.drop k) with
    | inl er =>
      rw [ht] at hT
      have hne := take_err ht
      have k1 : (er == 0) = false := beq_false_of_ne hne
      have k2 : (er != 0) = true := by simpa using hne
      have hRe : Hid (R = (l.map uu, k)) := Lib.hid (by rw [hRk.out, all_none ht]; simp)
      clear ht hne hRk
      go_wp2_with (go_at_call 15; (with_reducible refine (hT.out).mono ?_); rintro e w1 ⟨he, hb1⟩; cases he)
      refine bodyPost_ret (v := .tuple #[.slice A0 l.length c0, .int .i64 (k : Int)]) (by simp [results, Tryz.results17, go_sem]) rfl ⟨?_, ?_⟩
      · rw [hRe.out]
        exact ⟨l, A0, c0, rfl, hUnH.out.on (hb1.alloc hb1.size _), hRoH.out, rfl⟩
      · exact hU.out.bel.trans ((hb1.alloc hb1.size _).mono hU.out.bel.size)
    | inr un =>
      obtain ⟨u, n⟩ := un
      rw [ht] at hT
      obtain ⟨_, hn9, hnl⟩ := take_ok ht
      rw [List.length_drop, size_len] at hnl
      have hRn : Hid (R = ((l.map uu ++ [u]) ++ (allU (s.data.toList.drop (k + n))).1, k + n + (allU (s.data.toList.drop (k + n))).2)) := Lib.hid (by
        rw [hRk.out, all_some ht, List.drop_drop]
        simp [Nat.add_assoc])
      have k1 : ((0 : Int) == 0) = true := rfl
      have wkn := IntWalk.i64_in ((k : Int) + (n : Int)) (by omega)
      clear ht hRk
      go_upto_region 4 with (go_at_call 15; (with_reducible refine (hT.out).mono ?_); rintro e w1 ⟨⟨m, A, c, hm, hCm, rfl⟩, hb1⟩)
      have hb6 : Below wr.heap.size wr (w1.alloc (.cells #[.slice A m.length c] 24)) := hb1.alloc hb1.size _
      have hc6 : (w1.alloc (.cells #[.slice A m.length c] 24)).cell? ⟨w1.heap.size, 0, none⟩ = some (.slice A m.length c) := Lib.cell_of_heap (heap_alloc_new w1 _) 0
      have hC6 := hCm.on (W' := w1.alloc (.cells #[.slice A m.length c] 24)) one_box
      generalize (w1.alloc (.cells #[.slice A m.length c] 24)) = W6 at hb6 hc6 hC6 ⊢
      have hb6H := Lib.hid hb6
      have hC6H := Lib.hid hC6
      have hmH := Lib.hid hm
      have hox := Lib.hid ((hU.out.on (hb6.alloc hb6.size (.cells #[.slice A m.length c] 24))).own)
      have hbs := hU.out.bel.size
      have hbs2 := hb6.size
      clear hb6 hC6 hm hCm hb1 hT
      go_wp2_with (at_builtin; refine wpList_append_own_at _ rfl (.tmp 21) (.tmp 23) 37 rfl w.heap.size 24 i0 _ 1 24 Tryz.underlying37 hi hz0 hz1 hz2 rfl (by decide) (.slice A0 l.length c0) l.length xs rfl hox.out ⟨W6.heap.size, 0, none⟩ 1 1 [.slice A m.length c] rfl rfl (one_unit W6 _) (one_slice _ _ _) (by unfold maxLen; omega) (by omega) (by simp; omega) ?_)
      intro v' w7 hown7 hg7 _ hloc
      have hU7 := Lib.hid (hU.out.more (hb6H.out.alloc hb6H.out.size (.cells #[.slice A m.length c] 24)) ((hC6H.out.keep (fun _ _ _ => rfl) (Nat.le_refl _) (fun b hb1 _ e => by have := (hU.out.own.lt b e).2; omega)).on one_box) hown7 hg7 (by rw [World.size_alloc]; exact hloc))
      clear hown7 hg7 hloc
      go_wp2_with fail
      refine ⟨⟨k + n, v', _, l ++ [m], by go_num, rfl, by omega, by rw [List.length_append, List.length_singleton]; omega, hU7, Lib.hid (by rw [hRn.out, List.map_append, ← hmH.out]; rfl)⟩, ?_⟩
      simp [intOf]
      omega
end Go.Proofs.YtjidopgohdlfdaaGreatDoor

/-
  The program's unit.All, and the four contracts as the laws use them. Premises: the listed variables hold what the program's text lays; the text taken is not longer than a thousand million bytes.
-/
namespace Go.Proofs.YtjidopgohdlfdaaGreatDoor
open Go.RowKit Dec Pq S4 Un

/-- What the listed variables hold. -/
structure Tbs (w : World) : Prop where
  pow : Tab w
  err : ErrAt w
  fold : C14.Tab w
theorem Tbs.on {w w' : World} (h : Tbs w) (hb : Below w.heap.size w w') : Tbs w' :=
  ⟨h.pow.on hb, h.err.on hb, fun i hi => (hb.cell (C14.cell_lt (h.fold i hi))).trans (h.fold i hi)⟩
theorem unit_put_any {w : World} {A : Option Addr} {c : Nat} {u : UM} (h : CmdsAt w A u) (hu : OkL u) (hT : Tbs w) :
    Calls Tryz.prog 10 #[.agg #[.slice A u.length c]] w fun e w' => PutEnd (putU (uu u)) e ∧ Below w.heap.size w w' := uput_any h hu hT.pow hT.fold
theorem take_any (s : ByteArray) (w : World) (hs : s.size ≤ 1000000000) (hT : Tbs w) :
    Calls Tryz.prog 14 #[.string s] w fun e w' => TakeEnd w.heap.size (takeU s.data.toList) e w' ∧ Below w.heap.size w w' := utake_any s w hs hT.pow hT.err hT.fold
set_option maxRecDepth 100000 in
set_option maxHeartbeats 4000000 in
theorem all_any (s : ByteArray) (w : World) (hs : s.size ≤ 1000000000) (hTb : Tbs w) : Calls Tryz.prog 16 #[.string s] w fun e w' => AllUEnd (allU s.data.toList) e w' ∧ Below w.heap.size w w' := by
  have hTbH := Lib.hid hTb
  clear hTb
  obtain ⟨R, hR⟩ : ∃ R, R = allU s.data.toList := ⟨_, rfl⟩
  rw [← hR]
  have h0 := Lib.hid (US.start w)
  have hR0 : Hid (R = (([] : List UM).map uu ++ (allU (s.data.toList.drop 0)).1, 0 + (allU (s.data.toList.drop 0)).2)) := Lib.hid (by rw [hR]; simp)
  obtain ⟨i0, hi, hz0, hz1, hz2⟩ := info_parts unit_info
  clear hR
  go_enter Tryz.func16, Tryz.ntmps16
  go_wp2_with fail
  go_loopw [4, 5] (fun s4 s5 wr => ∃ (k : Nat) (v : Value) (xs : List Value) (l : List UM), s5 = .int .i64 k ∧ s4 = v ∧ k ≤ s.size ∧ 9 * l.length ≤ k ∧ Hid (US w wr v xs l) ∧ Hid (R = (l.map uu ++ (allU (s.data.toList.drop k)).1, k + (allU (s.data.toList.drop k)).2))) (fun _ s5 _ => s.size - (intOf s5).toNat)
  case atStart => exact ⟨0, _, [], [], rfl, rfl, by omega, by simp, h0, hR0⟩
  case round =>
    clear h0 hR0
    obtain ⟨k, v, xs, l, rfl, rfl, hk, hl9, hU, hRk⟩ := hrel
    obtain ⟨A0, c0, rfl, hUn, hRo⟩ := hU.out.units
    have hUnH := Lib.hid hUn
    have hRoH := Lib.hid hRo
    clear hUn hRo
    have hT := Lib.hid (take_any (s.extract k s.size) wr (by simp; omega) (hTbH.out.on hU.out.bel))
    have hdr : (s.extract k s.size).data.toList = s.data.toList.drop k := by
      simp
      exact List.take_of_length_le (by rw [List.length_drop, size_len]; omega)
    rw [hdr] at hT
    clear hdr
    have ki : (k : Int) ≤ (s.size : Int) := by omega
    have ki0 : (0 : Int) ≤ (k : Int) := by omega
    cases ht : takeU (s.data.toList.drop k) with
    | inl er =>
      rw [ht] at hT
      have hne := take_err ht
      have k1 : (er == 0) = false := beq_false_of_ne hne
      have k2 : (er != 0) = true := by simpa using hne
      have hRe : Hid (R = (l.map uu, k)) := Lib.hid (by rw [hRk.out, all_none ht]; simp)
      clear ht hne hRk
      go_wp2_with (go_at_call 14; (with_reducible refine (hT.out).mono ?_); rintro e w1 ⟨he, hb1⟩; cases he)
      refine bodyPost_ret (v := .tuple #[.slice A0 l.length c0, .int .i64 (k : Int)]) (by simp [results, Tryz.results16, go_sem]) rfl ⟨?_, ?_⟩
      · rw [hRe.out]
        exact ⟨l, A0, c0, rfl, hUnH.out.on (hb1.alloc hb1.size _), hRoH.out, rfl⟩
      · exact hU.out.bel.trans ((hb1.alloc hb1.size _).mono hU.out.bel.size)
    | inr un =>
      obtain ⟨u, n⟩ := un
      rw [ht] at hT
      obtain ⟨_, hn9, hnl⟩ := take_ok ht
      rw [List.length_drop, size_len] at hnl
      have hRn : Hid (R = ((l.map uu ++ [u]) ++ (allU (s.data.toList.drop (k + n))).1, k + n + (allU (s.data.toList.drop (k + n))).2)) := Lib.hid (by
        rw [hRk.out, all_some ht, List.drop_drop]
        simp [Nat.add_assoc])
      have k1 : ((0 : Int) == 0) = true := rfl
      have wkn := IntWalk.i64_in ((k : Int) + (n : Int)) (by omega)
      clear ht hRk
      go_upto_region 4 with (go_at_call 14; (with_reducible refine (hT.out).mono ?_); rintro e w1 ⟨⟨m, A, c, hm, hCm, rfl⟩, hb1⟩)
      have hb6 : Below wr.heap.size wr (w1.alloc (.cells #[.slice A m.length c] 24)) := hb1.alloc hb1.size _
      have hc6 : (w1.alloc (.cells #[.slice A m.length c] 24)).cell? ⟨w1.heap.size, 0, none⟩ = some (.slice A m.length c) := Lib.cell_of_heap (heap_alloc_new w1 _) 0
      have hC6 := hCm.on (W' := w1.alloc (.cells #[.slice A m.length c] 24)) one_box
      generalize (w1.alloc (.cells #[.slice A m.length c] 24)) = W6 at hb6 hc6 hC6 ⊢
      have hb6H := Lib.hid hb6
      have hC6H := Lib.hid hC6
      have hmH := Lib.hid hm
      have hox := Lib.hid ((hU.out.on (hb6.alloc hb6.size (.cells #[.slice A m.length c] 24))).own)
      have hbs := hU.out.bel.size
      have hbs2 := hb6.size
      clear hb6 hC6 hm hCm hb1 hT
      go_wp2_with (at_builtin; refine wpList_append_own_at _ rfl (.tmp 21) (.tmp 23) 37 rfl w.heap.size 24 i0 _ 1 24 Tryz.underlying37 hi hz0 hz1 hz2 rfl (by decide) (.slice A0 l.length c0) l.length xs rfl hox.out ⟨W6.heap.size, 0, none⟩ 1 1 [.slice A m.length c] rfl rfl (one_unit W6 _) (one_slice _ _ _) (by unfold maxLen; omega) (by omega) (by simp; omega) ?_)
      intro v' w7 hown7 hg7 _ hloc
      have hU7 := Lib.hid (hU.out.more (hb6H.out.alloc hb6H.out.size (.cells #[.slice A m.length c] 24)) ((hC6H.out.keep (fun _ _ _ => rfl) (Nat.le_refl _) (fun b hb1 _ e => by have := (hU.out.own.lt b e).2; omega)).on one_box) hown7 hg7 (by rw [World.size_alloc]; exact hloc))
      clear hown7 hg7 hloc
      go_wp2_with fail
      refine ⟨⟨k + n, v', _, l ++ [m], by go_num, rfl, by omega, by rw [List.length_append, List.length_singleton]; omega, hU7, Lib.hid (by rw [hRn.out, List.map_append, ← hmH.out]; rfl)⟩, ?_⟩
      simp [intOf]
      omega
end Go.Proofs.YtjidopgohdlfdaaGreatDoor
