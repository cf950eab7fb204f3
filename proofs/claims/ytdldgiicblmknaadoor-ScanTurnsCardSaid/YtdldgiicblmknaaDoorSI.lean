/-
  The walks of Turn, Scan, Pick over a table that is none; of Pick, of the law's Has; whole walks. A table's shape.
-/
import Derived.Test.YtdldgiicblmknaaDoorSH
namespace Go.Proofs.YtdldgiicblmknaaDoor
open Go.RowKit

set_option maxHeartbeats 1000000 in
theorem turn_nil (c : Nat) (hc : c < 18446744073709551616) (w : World) : Calls Tryd.prog 13 #[.pointer none, .int .u64 c] w fun r w' => r = .returned (.tuple #[.int .u64 0, .slice none 0 0]) ∧ w = w' := by
  have hnx := fun w => next_at c 0 hc (by omega) w
  have hpl := fun w => place_at c 0 hc (by omega) w
  rw [show nxt 0 c = 0 from rfl] at hnx
  rw [show c % pw 0 = 0 from by unfold pw; simp [Nat.mod_one]] at hpl
  simp only [Int.natCast_zero] at hnx hpl
  have hnxH := Lib.hid hnx
  have hplH := Lib.hid hpl
  clear hnx hpl
  go_enter Tryd.func13, Tryd.ntmps13
  go_wp2_with (first
    | (go_at_call 30; ((with_reducible refine (size_nil _).mono ?_); rintro e w' ⟨rfl, rfl⟩))
    | (go_at_call 31; ((with_reducible refine (toward_nil _).mono ?_); rintro e w' ⟨rfl, rfl⟩))
    | (go_at_call 32; ((with_reducible refine (hnxH.out _).mono ?_); rintro e w' ⟨rfl, rfl⟩))
    | (go_at_call 34; ((with_reducible refine (hplH.out _).mono ?_); rintro e w' ⟨rfl, rfl⟩))
    | (go_at_call 33; ((with_reducible refine (chain_nil _ _ _).mono ?_); rintro e w' ⟨rfl, rfl⟩)))
  go_ret2
  exact ⟨rfl, rfl⟩

set_option maxHeartbeats 1000000 in
theorem scan_nil (c : Nat) (hc : c < 18446744073709551616) (count : Int) (w : World) :
    Calls Tryd.prog 15 #[.pointer none, .int .u64 c, .int .i64 count] w fun r w' => r = .returned (.tuple #[.int .u64 0, .slice none 0 0]) ∧ w = w' := by
  obtain ⟨i0, hi, _, _, _⟩ := info_parts info_str
  have htn := Lib.hid (turn_nil c hc w)
  have hN := turnsN_le count
  have hN1 := turnsN_pos count
  have hC : max count 1 = ((cntN count : Nat) : Int) := by unfold cntN; omega
  have hM : min ((cntN count : Nat) : Int) 100000 = ((min (cntN count) 100000 : Nat) : Int) := by omega
  have hNM : (10 : Int) * ((min (cntN count) 100000 : Nat) : Int) = ((turnsN count : Nat) : Int) := by unfold turnsN; omega
  have hMb : min (cntN count) 100000 ≤ 100000 := Nat.min_le_right _ _
  generalize min (cntN count) 100000 = M at *
  generalize turnsN count = N at *
  have hC1 : 1 ≤ cntN count := by unfold cntN; omega
  generalize cntN count = C at *
  go_enter Tryd.func15, Tryd.ntmps15
  go_wp2_with fail
  go_loopw [1, 8, 16] (fun s1 s8 s16 wr => s16 = .int .i64 (0 : Nat) ∧ s1 = .int .u64 c ∧ s8 = .slice none 0 0 ∧ wr = w) (fun s1 s8 s16 _ => N - (intOf s16).toNat)
  case atStart => exact ⟨rfl, rfl, rfl, rfl⟩
  case round =>
    obtain ⟨rfl, rfl, rfl, rfl⟩ := hrel
    have hd1 : decide ((0 : Int) < (N : Int)) = true := by simp; omega
    have hd2 : decide ((C : Int) ≤ 0) = false := by simp; omega
    go_wp2_with (first
        | (go_at_call 13; ((with_reducible refine (htn.out).mono ?_); rintro e w1 ⟨rfl, rfl⟩))
        | (at_builtin; refine wpList_append_own_none rfl (.tmp 25) (.tmp 26) 38 rfl w.heap.size 9 i0 1 Tryd.underlying38 hi (.slice none 0 0) 0 [] rfl (World.ownsRow_nil _ _ 9 1) rfl ?_))
    go_ret2
    exact ⟨rfl, rfl⟩

set_option maxHeartbeats 1000000 in
theorem pick_nil (c : Nat) (w : World) : Calls Tryd.prog 17 #[.pointer none, .int .u64 c] w fun r w' => r = .returned (.tuple #[.string ⟨#[]⟩, .bool false]) ∧ w = w' := by
  go_enter Tryd.func17, Tryd.ntmps17
  go_wp2_with (go_at_call 20; ((with_reducible refine (keys_nil _).mono ?_); rintro e w' ⟨rfl, rfl⟩))
  go_ret2
  exact ⟨rfl, rfl⟩

/-- All keys, as a row of one's own. -/
theorem keysT_at {B : Nat} {X : Tb} {w : World} (h : Ok B X w) : Calls Tryd.prog 20 #[.pointer (some ⟨X.T, 0, none⟩)] w fun r w' => ∃ v', r = .returned v' ∧ RowT w' w.heap.size v' (kys X.ents) ∧ Below w.heap.size w w' := by
  refine (keys_any h).mono ?_
  rintro r w' ⟨v, rfl, how, hb⟩
  exact ⟨v, rfl, rowT_keys how, hb⟩

set_option maxHeartbeats 1000000 in
theorem pick_at {B : Nat} {X : Tb} {w : World} (h : Ok B X w) (c : Nat) (hc : c < 18446744073709551616) :
    Calls Tryd.prog 17 #[.pointer (some ⟨X.T, 0, none⟩), .int .u64 c] w fun r w' => r = .returned (.tuple #[.string ((kys X.ents).getD (c % X.ents.length) ⟨#[]⟩), .bool (decide (0 < X.ents.length))]) ∧ Below w.heap.size w w' := by
  have hks := Lib.hid (keysT_at h)
  have hl : X.ents.length ≤ 1000000 := by have := h.inv.cnt; have := h.inv.good.ct; omega
  have hkl := kys_len X.ents
  generalize kys X.ents = K at *
  generalize X.ents.length = n at *
  clear h
  by_cases hn : n = 0
  · have hd : decide (0 < n) = false := by simp; omega
    have hK : K = [] := List.length_eq_zero_iff.1 (by omega)
    rw [hd]
    subst hK
    clear hd
    go_enter Tryd.func17, Tryd.ntmps17
    go_wp2_with (go_at_call 20; ((with_reducible refine (hks.out).mono ?_); rintro e w' ⟨v', rfl, how, hb⟩; obtain ⟨A, cp, rfl⟩ := how.len; have hbH := Lib.hid hb; have howH := Lib.hid how; clear hb how))
    go_ret2
    exact ⟨rfl, hbH.out⟩
  · have hd : decide (0 < n) = true := by simp; omega
    rw [hd]
    have hm := Nat.mod_lt c (show 0 < n by omega)
    obtain ⟨x, hx⟩ : ∃ x, K[c % n]? = some x := ⟨_, List.getElem?_eq_getElem (by omega)⟩
    have hgx : K.getD (c % n) ⟨#[]⟩ = x := by simp [hx]
    rw [hgx]
    have hkH := Lib.hid hkl
    have hxH := Lib.hid hx
    have hnz : ((n : Int) == 0) = false := by simp; omega
    have hnz2 : decide ((n : Int) = 0) = false := by simp; omega
    clear hd hgx hx
    have hmI : ((c : Int) % (n : Int)) = ((c % n : Nat) : Int) := by omega
    generalize c % n = j at *
    go_enter Tryd.func17, Tryd.ntmps17
    go_upto_region 4 with (go_at_call 20; ((with_reducible refine (hks.out).mono ?_); rintro e w' ⟨v', rfl, how, hb⟩; obtain ⟨g, cp, rfl, hg1, hg2, hcell⟩ := how.cell hxH.out; rw [hkH.out] at *; have hbH := Lib.hid hb; have howH := Lib.hid how; clear hb how))
    go_wp2_with fail
    go_ret2
    exact ⟨rfl, hbH.out⟩

/-- Is a text among some? -/
def hasB (L : List ByteArray) (s : ByteArray) : Bool := L.any fun x => x.toList == s.toList
theorem hasB_mem {L : List ByteArray} {s : ByteArray} : hasB L s = true ↔ s ∈ L := by
  unfold hasB
  rw [List.any_eq_true]
  constructor
  · rintro ⟨x, hx, he⟩
    rw [← bytes_eq he]; exact hx
  · intro h; exact ⟨s, h, by simp⟩

set_option maxHeartbeats 1000000 in
theorem has_at {w : World} {base : Nat} {v : Value} {L : List ByteArray} (h : RowT w base v L) (s : ByteArray) (hl : L.length ≤ 1000000000000000) :
    Calls Tryd.prog 21 #[v, .string s] w fun r w' => r = .returned (.bool (hasB L s)) ∧ Only [] w w' := by
  have hH := Lib.hid h
  obtain ⟨A, cp, rfl⟩ := h.len
  clear h
  generalize hn : L.length = n at *
  have hnH := Lib.hid hn
  go_enter Tryd.func21, Tryd.ntmps21
  go_wp2_with fail
  go_loopw [5] (fun s5 wr => ∃ i : Nat, i ≤ n ∧ s5 = .int .i64 i ∧ Hid (hasB (L.drop i) s = hasB L s) ∧ Hid (Only [] w wr)) (fun s5 _ => n - (intOf s5).toNat)
  case atStart => exact ⟨0, by omega, rfl, Lib.hid (by simp), Lib.hid (Only.refl _ _)⟩
  case round =>
    obtain ⟨i, hi, rfl, hd, hon⟩ := hrel
    by_cases hil : i < n
    · obtain ⟨e, he⟩ : ∃ e, L[i]? = some e := ⟨_, List.getElem?_eq_getElem (by omega)⟩
      obtain ⟨g1, c1, heq, _, hg1, hc1⟩ := hH.out.cell he
      have hdr : L.drop i = e :: L.drop (i + 1) := by
        obtain ⟨h1, h2⟩ := List.getElem?_eq_some_iff.1 he
        rw [List.drop_eq_getElem_cons h1, h2]
      have hd2 := hd.out
      rw [hdr] at hd2
      unfold hasB at hd2
      rw [List.any_cons] at hd2
      cases heq
      have d1 := (World.cell?_of_block (w := w) (a := ⟨g1, i, none⟩) (hon.out.2 g1 hg1 (by simp))).trans hc1
      cases heb : (e.toList == s.toList) with
      | true =>
        rw [heb, Bool.true_or] at hd2
        have hd2H := Lib.hid hd2
        clear hd2 he hdr
        go_wp2_with fail
        go_ret
        exact ⟨congrArg (fun b => Ending.returned (.bool b)) hd2H.out, hon.out⟩
      | false =>
        rw [heb, Bool.false_or] at hd2
        have hd2H := Lib.hid hd2
        clear hd2 he hdr
        go_wp2_with fail
        go_roundw
        case rel => exact ⟨i + 1, by omega, by go_num, Lib.hid hd2H.out, Lib.hid (hon.out)⟩
        case measure => simp [intOf]; omega
    · have hin : i = n := by omega
      have hd2 := hd.out
      rw [List.drop_eq_nil_of_le (by omega)] at hd2
      have hd2H := Lib.hid hd2
      subst hin
      clear hd2
      go_wp2_with fail
      go_ret
      exact ⟨by rw [← hd2H.out]; rfl, hon.out⟩

end Go.Proofs.YtdldgiicblmknaaDoor
