/-
  The walk of the document's own reader of a decimal. No premise.
-/
import Derived.Test.YtjidopgohdlfdaaGreatDoorWalksD
namespace Go.Proofs.YtjidopgohdlfdaaGreatDoor
open Go.RowKit Dec

theorem numOf_bad {s : List UInt8} (h : digs (rest s) = none) : numOf s = none := by unfold numOf; rw [h]
theorem numOf_not {s : List UInt8} {u : Nat} (h : digs (rest s) = some u) (h2 : ¬ (-9223372036854775808 ≤ signed s u ∧ signed s u ≤ 9223372036854775807 ∧ Lib.itoa (signed s u) = s)) : numOf s = none := by
  unfold numOf; rw [h]; simp only []; rw [if_neg h2]
theorem numOf_far {s : List UInt8} {u : Nat} (h : ∀ v, digs (rest s) = some v → u ≤ v) (hu : 9223372036854775808 < u) : numOf s = none := by
  cases hd : digs (rest s) with
  | none => exact numOf_bad hd
  | some v =>
    have := h v hd
    refine numOf_not hd ?_
    unfold signed
    split <;> omega
theorem numOf_hit {s : List UInt8} {n : Int} (h : Lib.itoa n = s) (h0 : -9223372036854775808 ≤ n) (h1 : n ≤ 9223372036854775807) : numOf s = some n := by
  rw [← h]; exact numOf_itoa n h0 h1
theorem digs_bad (s : ByteArray) (k u : Nat) (h : k < s.size) (hd : digs (s.data.toList.take k) = some u) (hc : s[k].toNat < 48 ∨ 57 < s[k].toNat) : digs s.data.toList = none := by
  rw [split_at s k h, take_snoc s k h]
  apply digs_append_none
  rw [digs_snoc, hd]
  simp only [Option.bind_some]
  rw [if_neg (by omega)]
theorem digs_big (s : ByteArray) (k u : Nat) (h : k < s.size) (hd : digs (s.data.toList.take k) = some u) (h1 : 48 ≤ s[k].toNat) (h2 : s[k].toNat ≤ 57) (v : Nat) (hv : digs s.data.toList = some v) :
    u * 10 + (s[k].toNat - 48) ≤ v := by
  rw [split_at s k h] at hv
  exact digs_append_ge _ _ _ _ (digs_next s k u h hd h1 h2) hv
theorem rest_plain {l : List UInt8} (h : l.head? ≠ some 45) : rest l = l ∧ ∀ u, signed l u = (u : Int) := by
  have hm : minus l = false := by unfold minus; simpa using h
  exact ⟨by unfold rest; rw [hm]; rfl, fun u => by unfold signed; rw [hm]; rfl⟩
theorem rest_minus (l : List UInt8) : rest (45 :: l) = l ∧ ∀ u, signed (45 :: l) u = -(u : Int) := ⟨rfl, fun _ => rfl⟩
theorem bytes_toList {a b : ByteArray} (h : a.toList = b.toList) : a.data.toList = b.data.toList := by rwa [Lib.toList_data, Lib.toList_data] at h

/-- What the walk of a reader must end with. -/
def ReadEnd (s : ByteArray) (w : World) (e : Ending) (w' : World) : Prop := e = .returned (.tuple #[.int .i64 (parN s.data.toList), .bool (parB s.data.toList)]) ∧ Below w.heap.size w w'
theorem readEnd_none {s : ByteArray} {w w' : World} (h : numOf s.data.toList = none) (hb : Below w.heap.size w w') : ReadEnd s w (.returned (.tuple #[.int .i64 0, .bool false])) w' := by
  refine ⟨?_, hb⟩; rw [(par_none h).1, (par_none h).2]
theorem readEnd_some {s : ByteArray} {w w' : World} {n : Int} (h : numOf s.data.toList = some n) (hb : Below w.heap.size w w') : ReadEnd s w (.returned (.tuple #[.int .i64 n, .bool true])) w' := by
  refine ⟨?_, hb⟩; rw [(par_some h).1, (par_some h).2]

set_option maxHeartbeats 2000000 in
theorem rparse_plain (s : ByteArray) (w : World) (hs : s.size ≤ maxLen) (h0 : 0 < s.size) (h2 : ((s[0].toNat : Int) == 45) = false) (hh : Hid (s.data.toList.head? ≠ some 45)) :
    Calls Tryz.prog 78 #[.string s] w (ReadEnd s w) := by
  unfold maxLen at hs
  have hr := Lib.hid (rest_plain hh.out)
  go_enter Tryz.func78, Tryz.ntmps78
  go_wp2
  go_loop [5, 6] (fun n i => ∃ k u : Nat, k ≤ s.size ∧ i = .int .i64 k ∧ digs (s.data.toList.take k) = some u ∧ u ≤ 9223372036854775808 ∧ n = .int .i64 (-(u : Int))) (fun _ i => s.size - (intOf i).toNat)
  case atStart => exact ⟨0, 0, Nat.zero_le _, rfl, rfl, by omega, rfl⟩
  case round =>
    obtain ⟨k, u, hk, rfl, hd, hu, rfl⟩ := hrel
    have hdh := Lib.hid hd
    clear hd
    by_cases hlt : k < s.size
    · rcases Nat.eq_zero_or_pos k with hz | hz
      · subst hz
        go_wp2
        · have hn := numOf_bad (by rw [hr.out.1]; exact digs_bad s 0 u (by assumption) hdh.out (by omega))
          go_ret2
          exact readEnd_none hn (Below.refl _ _)
        · have hq : -(u : Int) < (-9223372036854775808 + ((s[(0 : Nat)].toNat : Int) - 48)).tdiv 10 := by assumption
          rw [show ((s[(0 : Nat)].toNat : Int) - 48) = ((s[(0 : Nat)].toNat - 48 : Nat) : Int) by omega, room u _ (by omega)] at hq
          have hn := numOf_far (s := s.data.toList) (by rw [hr.out.1]; exact digs_big s 0 u (by assumption) hdh.out (by omega) (by omega)) hq
          go_ret2
          exact readEnd_none hn (Below.refl _ _)
        · have hq : (-9223372036854775808 + ((s[(0 : Nat)].toNat : Int) - 48)).tdiv 10 ≤ -(u : Int) := by assumption
          have hq' : ¬ 9223372036854775808 < u * 10 + (s[(0 : Nat)].toNat - 48) := by
            rw [← room u _ (by omega), show ((s[(0 : Nat)].toNat - 48 : Nat) : Int) = ((s[(0 : Nat)].toNat : Int) - 48) by omega]
            omega
          go_round
          case rel =>
            refine ⟨0 + 1, u * 10 + (s[(0 : Nat)].toNat - 48), by omega, by go_num, digs_next s 0 u (by assumption) hdh.out (by omega) (by omega), by omega, ?_⟩
            rw [IntWalk.wrap64_in (-(u : Int) * 10) (by omega), IntWalk.wrap64_in _ (by omega)]
            congr 1
            omega
          case measure => simp [intOf]; omega
        · have hn := numOf_bad (by rw [hr.out.1]; exact digs_bad s 0 u (by assumption) hdh.out (by omega))
          go_ret2
          exact readEnd_none hn (Below.refl _ _)
      · have hz' : ((k : Int) == 0) = false := by simp; omega
        go_wp2
        · have hn := numOf_bad (by rw [hr.out.1]; exact digs_bad s k u (by assumption) hdh.out (by omega))
          go_ret2
          exact readEnd_none hn (Below.refl _ _)
        · have hq : -(u : Int) < (-9223372036854775808 + ((s[(k : Nat)].toNat : Int) - 48)).tdiv 10 := by assumption
          rw [show ((s[(k : Nat)].toNat : Int) - 48) = ((s[(k : Nat)].toNat - 48 : Nat) : Int) by omega, room u _ (by omega)] at hq
          have hn := numOf_far (s := s.data.toList) (by rw [hr.out.1]; exact digs_big s k u (by assumption) hdh.out (by omega) (by omega)) hq
          go_ret2
          exact readEnd_none hn (Below.refl _ _)
        · have hq : (-9223372036854775808 + ((s[(k : Nat)].toNat : Int) - 48)).tdiv 10 ≤ -(u : Int) := by assumption
          have hq' : ¬ 9223372036854775808 < u * 10 + (s[(k : Nat)].toNat - 48) := by
            rw [← room u _ (by omega), show ((s[(k : Nat)].toNat - 48 : Nat) : Int) = ((s[(k : Nat)].toNat : Int) - 48) by omega]
            omega
          go_round
          case rel =>
            refine ⟨k + 1, u * 10 + (s[(k : Nat)].toNat - 48), by omega, by go_num, digs_next s k u (by assumption) hdh.out (by omega) (by omega), by omega, ?_⟩
            rw [IntWalk.wrap64_in (-(u : Int) * 10) (by omega), IntWalk.wrap64_in _ (by omega)]
            congr 1
            omega
          case measure => simp [intOf]; omega
        · have hn := numOf_bad (by rw [hr.out.1]; exact digs_bad s k u (by assumption) hdh.out (by omega))
          go_ret2
          exact readEnd_none hn (Below.refl _ _)
    · have hks : s.data.toList.take k = s.data.toList := List.take_of_length_le (by simp; omega)
      have hD : Hid (digs (rest s.data.toList) = some u) := Lib.hid (by rw [hr.out.1, ← hks]; exact hdh.out)
      clear hks
      by_cases h63 : u = 9223372036854775808
      · have hn : Hid (numOf s.data.toList = none) := Lib.hid (numOf_not hD.out (by rw [hr.out.2]; omega))
        subst h63
        go_wp2_with fail
        go_ret2
        exact readEnd_none hn.out (Below.refl _ _)
      · have hu' : u ≤ 9223372036854775807 := by omega
        have h63' : (-(u : Int) == -9223372036854775808) = false := by simp; omega
        by_cases hT : (dec (u : Int)).toList = s.toList
        · have hn : Hid (numOf s.data.toList = some (u : Int)) := Lib.hid (numOf_hit (by rw [← dec_data]; exact bytes_toList hT) (by omega) (by omega))
          have hT' : ((dec (u : Int)).toList == s.toList) = true := by simpa using hT
          clear hT
          go_wp2_with (go_at_call 54; refine (rtext_any _ _ (by omega) (by omega)).mono ?_; rintro e w' ⟨rfl, hb⟩)
          go_ret2
          exact readEnd_some hn.out hb
        · have hn : Hid (numOf s.data.toList = none) := Lib.hid (numOf_not hD.out (by rw [hr.out.2, ← dec_data]; intro h; apply hT; rw [Lib.toList_data, Lib.toList_data]; exact h.2.2))
          have hT' : ((dec (u : Int)).toList == s.toList) = false := by simpa using hT
          clear hT
          go_wp2_with (go_at_call 54; refine (rtext_any _ _ (by omega) (by omega)).mono ?_; rintro e w' ⟨rfl, hb⟩)
          go_ret2
          exact readEnd_none hn.out hb

theorem behind {s t : ByteArray} (h : s.data.toList = 45 :: t.data.toList) : s.size = t.size + 1 := by
  have := congrArg List.length h
  simp at this
  exact this
theorem behind_at {s t : ByteArray} (h : s.data.toList = 45 :: t.data.toList) (k : Nat) (hk : k < s.size) (h1 : 1 ≤ k) (hk' : k - 1 < t.size) : s[k].toNat = t[k - 1].toNat := by
  have e : s.data.toList[k]? = (45 :: t.data.toList)[k]? := by rw [h]
  obtain ⟨j, rfl⟩ : ∃ j, k = j + 1 := ⟨k - 1, by omega⟩
  rw [List.getElem?_cons_succ, List.getElem?_eq_getElem (by simpa using hk), List.getElem?_eq_getElem (by simpa using hk')] at e
  exact congrArg UInt8.toNat (Option.some.inj e)

set_option maxHeartbeats 2000000 in
theorem rparse_minus (s t : ByteArray) (w : World) (hs : s.size ≤ maxLen) (h0 : 0 < s.size) (h2 : ((s[0].toNat : Int) == 45) = true) (hst : Hid (s.data.toList = 45 :: t.data.toList)) :
    Calls Tryz.prog 78 #[.string s] w (ReadEnd s w) := by
  unfold maxLen at hs
  have hr : Hid (rest s.data.toList = t.data.toList ∧ ∀ u, signed s.data.toList u = -(u : Int)) := Lib.hid (by rw [hst.out]; exact rest_minus _)
  have hsz := Lib.hid (behind hst.out)
  go_enter Tryz.func78, Tryz.ntmps78
  go_wp2
  go_loop [5, 6] (fun n i => ∃ k u : Nat, k ≤ s.size ∧ i = .int .i64 k ∧ digs (t.data.toList.take (k - 1)) = some u ∧ u ≤ 9223372036854775808 ∧ n = .int .i64 (-(u : Int))) (fun _ i => s.size - (intOf i).toNat)
  case atStart => exact ⟨0, 0, Nat.zero_le _, rfl, rfl, by omega, rfl⟩
  case round =>
    obtain ⟨k, u, hk, rfl, hd, hu, rfl⟩ := hrel
    have hdh := Lib.hid hd
    clear hd
    by_cases hlt : k < s.size
    · rcases Nat.eq_zero_or_pos k with hz | hz
      · subst hz
        go_wp2
        go_round
        case rel => exact ⟨1, u, by omega, rfl, hdh.out, hu, rfl⟩
        case measure => simp [intOf]; omega
      · have hz' : ((k : Int) == 0) = false := by simp; omega
        have hk' : Hid (k - 1 < t.size) := Lib.hid (by have := hsz.out; omega)
        have hx := Lib.hid (behind_at hst.out k hlt hz hk'.out)
        go_wp2
        · have hx' := hx.out
          have hn := numOf_bad (by rw [hr.out.1]; exact digs_bad t (k - 1) u hk'.out hdh.out (by omega))
          go_ret2
          exact readEnd_none hn (Below.refl _ _)
        · have hq : -(u : Int) < (-9223372036854775808 + ((s[k].toNat : Int) - 48)).tdiv 10 := by assumption
          have hx' := hx.out
          rw [show ((s[k].toNat : Int) - 48) = ((s[k].toNat - 48 : Nat) : Int) by omega, room u _ (by omega), hx'] at hq
          have hn := numOf_far (s := s.data.toList) (by rw [hr.out.1]; exact digs_big t (k - 1) u hk'.out hdh.out (by omega) (by omega)) hq
          go_ret2
          exact readEnd_none hn (Below.refl _ _)
        · have hq : (-9223372036854775808 + ((s[k].toNat : Int) - 48)).tdiv 10 ≤ -(u : Int) := by assumption
          have hq' : ¬ 9223372036854775808 < u * 10 + (s[k].toNat - 48) := by
            rw [← room u _ (by omega), show ((s[k].toNat - 48 : Nat) : Int) = ((s[k].toNat : Int) - 48) by omega]
            omega
          have hx' := hx.out
          go_round
          case rel =>
            refine ⟨k + 1, u * 10 + (s[k].toNat - 48), by omega, by go_num, ?_, by omega, ?_⟩
            · have hnx := digs_next t (k - 1) u hk'.out hdh.out (by omega) (by omega)
              rw [show k - 1 + 1 = k + 1 - 1 by omega, ← hx'] at hnx
              exact hnx
            · rw [IntWalk.wrap64_in (-(u : Int) * 10) (by omega), IntWalk.wrap64_in _ (by omega)]
              congr 1
              omega
          case measure => simp [intOf]; omega
        · have hx' := hx.out
          have hn := numOf_bad (by rw [hr.out.1]; exact digs_bad t (k - 1) u hk'.out hdh.out (by omega))
          go_ret2
          exact readEnd_none hn (Below.refl _ _)
    · have hks : t.data.toList.take (k - 1) = t.data.toList := List.take_of_length_le (by have := hsz.out; simp; omega)
      have hD : Hid (digs (rest s.data.toList) = some u) := Lib.hid (by rw [hr.out.1, ← hks]; exact hdh.out)
      clear hks
      by_cases hT : (dec (-(u : Int))).toList = s.toList
      · have hn : Hid (numOf s.data.toList = some (-(u : Int))) := Lib.hid (numOf_hit (by rw [← dec_data]; exact bytes_toList hT) (by omega) (by omega))
        have hT' : ((dec (-(u : Int))).toList == s.toList) = true := by simpa using hT
        clear hT
        go_wp2_with (go_at_call 54; refine (rtext_any _ _ (by omega) (by omega)).mono ?_; rintro e w' ⟨rfl, hb⟩)
        go_ret2
        exact readEnd_some hn.out hb
      · have hn : Hid (numOf s.data.toList = none) := Lib.hid (numOf_not hD.out (by rw [hr.out.2, ← dec_data]; intro h; apply hT; rw [Lib.toList_data, Lib.toList_data]; exact h.2.2))
        have hT' : ((dec (-(u : Int))).toList == s.toList) = false := by simpa using hT
        clear hT
        go_wp2_with (go_at_call 54; refine (rtext_any _ _ (by omega) (by omega)).mono ?_; rintro e w' ⟨rfl, hb⟩)
        go_ret2
        exact readEnd_none hn.out hb

set_option maxHeartbeats 1000000 in
theorem rparse_empty (s : ByteArray) (w : World) (h : s.size = 0) (hT : ((dec 0).toList == s.toList) = false) (hn : Hid (numOf s.data.toList = none)) :
    Calls Tryz.prog 78 #[.string s] w (ReadEnd s w) := by
  go_enter Tryz.func78, Tryz.ntmps78
  go_wp2
  go_loop [5, 6] (fun n i => i = .int .i64 0 ∧ n = .int .i64 0) (fun _ i => s.size - (intOf i).toNat)
  case atStart => exact ⟨rfl, rfl⟩
  case round =>
    obtain ⟨rfl, rfl⟩ := hrel
    go_wp2_with (go_at_call 54; refine (rtext_any _ _ (by omega) (by omega)).mono ?_; rintro e w' ⟨rfl, hb⟩)
    go_ret2
    exact readEnd_none hn.out hb

theorem rparse_any (s : ByteArray) (w : World) (hs : s.size ≤ maxLen) : Calls Tryz.prog 78 #[.string s] w (ReadEnd s w) := by
  rcases Nat.eq_zero_or_pos s.size with h0 | h0
  · have hl : s.data.toList = [] := List.eq_nil_of_length_eq_zero (by simpa using h0)
    refine rparse_empty s w h0 ?_ (Lib.hid (by rw [hl]; decide +kernel))
    rw [Lib.toList_data, Lib.toList_data, hl, dec_data]
    decide +kernel
  · have hh := head_at s h0
    by_cases h45 : (s[0].toNat : Int) = 45
    · have h45' : s[0] = 45 := UInt8.toNat.inj (by show s[0].toNat = 45; omega)
      obtain ⟨t, hst⟩ : ∃ t : ByteArray, s.data.toList = 45 :: t.data.toList := by
        cases hl : s.data.toList with
        | nil => rw [hl] at hh; cases hh
        | cons c l =>
          rw [hl, h45'] at hh
          obtain rfl : c = 45 := by simpa using hh
          exact ⟨⟨l.toArray⟩, by simp⟩
      exact rparse_minus s t w hs h0 (by simpa using h45) (Lib.hid hst)
    · refine rparse_plain s w hs h0 (by simpa using h45) (Lib.hid ?_)
      rw [hh]
      intro e
      apply h45
      have : s[0] = 45 := by simpa using e
      rw [this]; rfl

end Go.Proofs.YtjidopgohdlfdaaGreatDoor
