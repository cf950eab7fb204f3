/-
  The walk of the reference's reader of a number. A premise: the text is no longer than an int holds.
-/
import Derived.Test.YtogbjhpkbdmllaaDoorRU
namespace Go.Proofs.YtogbjhpkbdmllaaDoor
open Go.RowKit Rp Dec

theorem isDig_of_digs {l : List UInt8} {c : UInt8} {u : Nat} (h : digs (l ++ [c]) = some u) : isDig c = true := by
  rw [digs_snoc] at h
  unfold isDig
  cases hd : digs l with
  | none => rw [hd] at h; simp at h
  | some v =>
    rw [hd] at h
    simp only [Option.bind_some] at h
    by_cases hc : 48 ≤ c.toNat ∧ c.toNat ≤ 57
    · exact decide_eq_true hc
    · simp [hc] at h
theorem numOf_last {l : List UInt8} {c : UInt8} {n : Int} (h : numOf (l ++ [c]) = some n) : isDig c = true := by
  have h0 := h
  unfold numOf at h
  cases hd : digs (rest (l ++ [c])) with
  | none => rw [hd] at h; cases h
  | some u =>
    cases l with
    | nil =>
      by_cases hc : c = 45
      · subst hc; rw [List.nil_append, numOf_minus_alone] at h0; cases h0
      · have e : rest ([] ++ [c]) = [] ++ [c] := (rest_plain (l := [c]) (by simpa using hc)).1
        rw [e] at hd
        exact isDig_of_digs hd
    | cons d l =>
      by_cases hc : d = 45
      · subst hc
        exact isDig_of_digs (l := l) hd
      · have e : rest (d :: l ++ [c]) = d :: l ++ [c] := (rest_plain (by simpa using hc)).1
        rw [e] at hd
        exact isDig_of_digs hd
abbrev whF (pre t : List UInt8) : Sum Int (Int × Nat) := decGo (-9223372036854775808) 9223372036854775807 5 pre t
section
variable {s : ByteArray} {k : Nat}
theorem take_len (h : k ≤ s.size) : (s.data.toList.take k).length = k := by rw [List.length_take]; simp; omega
theorem wh_none (h : k < s.size) (hc : s[k] = 13) (hn : numOf (s.data.toList.take k) = none) : whF (s.data.toList.take k) (s.data.toList.drop k) = .inl 5 := by
  unfold whF
  rw [line_drop h, decGo, hc, if_neg (by rw [isDig_cr]; decide), if_neg (by intro h; exact absurd h.1 (by decide)), hn]
theorem wh_end (h : k < s.size) (hc : s[k] = 13) {n : Int} (hn : numOf (s.data.toList.take k) = some n) (he : k + 1 = s.size) : whF (s.data.toList.take k) (s.data.toList.drop k) = .inl 4 := by
  have hd : s.data.toList.drop (k + 1) = [] := List.drop_eq_nil_of_le (by simp; omega)
  unfold whF
  rw [line_drop h, decGo, hc, if_neg (by rw [isDig_cr]; decide), if_neg (by intro h; exact absurd h.1 (by decide)), hn, hd]
  rfl
theorem wh_no (h : k < s.size) (hc : s[k] = 13) {n : Int} (hn : numOf (s.data.toList.take k) = some n) (h' : k + 1 < s.size) (hd : s[k + 1] ≠ 10) : whF (s.data.toList.take k) (s.data.toList.drop k) = .inl 5 := by
  unfold whF
  rw [line_drop h, decGo, hc, if_neg (by rw [isDig_cr]; decide), if_neg (by intro h; exact absurd h.1 (by decide)), hn, line_drop h']
  have : endF (13 :: s[k + 1] :: s.data.toList.drop (k + 1 + 1)) = 5 := by rw [endF, if_neg (fun e => hd e.2)]
  simp only [stopF, this]
  rfl
theorem wh_yes (h : k < s.size) (hc : s[k] = 13) {n : Int} (hn : numOf (s.data.toList.take k) = some n) (h' : k + 1 < s.size) (hd : s[k + 1] = 10) : whF (s.data.toList.take k) (s.data.toList.drop k) = .inr (n, k + 2) := by
  unfold whF
  rw [line_drop h, hc, line_drop h', hd, decGo_eol _ _ _ hn, take_len (by omega)]
theorem wh_more (h : k < s.size) {n : Int} (hn : numOf (s.data.toList.take (k + 1)) = some n) : whF (s.data.toList.take k) (s.data.toList.drop k) = whF (s.data.toList.take (k + 1)) (s.data.toList.drop (k + 1)) := by
  rw [line_take h] at hn
  obtain ⟨_, h0, h1⟩ := numOf_some _ _ hn
  unfold whF
  rw [line_drop h, line_take h]
  exact decGo_dig (numOf_last hn) hn h0 h1
theorem wh_minus (h : 0 < s.size) (hc : s[0] = 45) : whF (s.data.toList.take 0) (s.data.toList.drop 0) = whF (s.data.toList.take 1) (s.data.toList.drop 1) := by
  unfold whF
  rw [line_drop h, line_take h, hc, decGo, if_neg (by decide), if_pos ⟨rfl, rfl⟩]
  rfl
theorem wh_bad (h : k < s.size) (hc : s[k] ≠ 13) (hm : ¬ (k = 0 ∧ s[k] = 45)) (hn : numOf (s.data.toList.take (k + 1)) = none) : whF (s.data.toList.take k) (s.data.toList.drop k) = .inl 5 := by
  rw [line_take h] at hn
  unfold whF
  rw [line_drop h, decGo]
  by_cases hd : isDig s[k] = true
  · rw [if_pos hd, hn]
  · rw [if_neg hd, if_neg (fun e => hm ⟨by
      have := congrArg List.length e.2
      rw [take_len (by omega)] at this
      exact this, e.1⟩)]
    cases numOf (s.data.toList.take k) with
    | none => rfl
    | some n =>
      have : endF (s[k] :: s.data.toList.drop (k + 1)) = 5 := by
        cases s.data.toList.drop (k + 1) with
        | nil => rw [endF, if_neg hc]
        | cons d t => rw [endF, if_neg (fun e => hc e.1)]
      simp only [stopF, this]
      rfl
end
/-- How the reference's reader of a number ends. -/
def WholeEnd (T : Sum Int (Int × Nat)) (e : Ending) : Prop := match T with
  | .inl x => e = .returned (.tuple #[.int .i64 0, .int .i64 0, .int .i64 x])
  | .inr (n, k) => e = .returned (.tuple #[.int .i64 n, .int .i64 k, .int .i64 0])
theorem parse_yes (s : ByteArray) (k : Nat) (hs : s.size < 4294967281) {n : Int} (hn : numOf (s.data.toList.take k) = some n) (w : World) : Calls Tryd.prog 54 #[.string (s.extract 0 k)] w fun e w' => e = .returned (.tuple #[.int .i64 n, .bool true]) ∧ Below w.heap.size w w' := by
  refine (rparse_any (s.extract 0 k) w (by simp [maxLen]; omega)).mono fun e w' ⟨he, hb⟩ => ⟨?_, hb⟩
  rw [he, head_data, (par_some hn).1, (par_some hn).2]
theorem parse_no (s : ByteArray) (k : Nat) (hs : s.size < 4294967281) (hn : numOf (s.data.toList.take k) = none) (w : World) : Calls Tryd.prog 54 #[.string (s.extract 0 k)] w fun e w' => e = .returned (.tuple #[.int .i64 0, .bool false]) ∧ Below w.heap.size w w' := by
  refine (rparse_any (s.extract 0 k) w (by simp [maxLen]; omega)).mono fun e w' ⟨he, hb⟩ => ⟨?_, hb⟩
  rw [he, head_data, (par_none hn).1, (par_none hn).2]

set_option maxRecDepth 100000 in
set_option maxHeartbeats 2000000 in
theorem whole_any (s : ByteArray) (w : World) (hs : s.size < 4294967281) : Calls Tryd.prog 41 #[.string s] w fun e w' => WholeEnd (whF [] s.data.toList) e ∧ Below w.heap.size w w' := by
  obtain ⟨T, hT⟩ : ∃ T, whF [] s.data.toList = T := ⟨_, rfl⟩
  rw [hT]
  have hTH := Lib.hid hT
  clear hT
  go_enter Tryd.func41, Tryd.ntmps41
  go_wp2_with fail
  have hb0 : Below w.heap.size w w := Below.refl _ _
  go_loopw [5] (fun i wr => ∃ k : Nat, i = .int .i64 k ∧ k ≤ s.size ∧ Hid (whF (s.data.toList.take k) (s.data.toList.drop k) = T) ∧ Below w.heap.size w wr) (fun i _ => s.size - (intOf i).toNat)
  case atStart => exact ⟨0, rfl, Nat.zero_le _, hTH, hb0⟩
  case round =>
    clear hTH hb0
    obtain ⟨k, rfl, hk, hTH, hb⟩ := hrel
    by_cases hlt : k < s.size
    · by_cases h13 : s[k].toNat = 13
      · have hq : ((s[k].toNat : Int) == 13) = true := by rw [h13]; rfl
        have hc := Lib.hid (byte_is h13 (by decide))
        cases hn : numOf (s.data.toList.take k) with
        | none =>
          have hR : Hid (T = .inl 5) := Lib.hid (by rw [← hTH.out]; exact wh_none hlt hc.out hn)
          have hP := Lib.hid (parse_no s k hs hn)
          clear hTH hn
          go_wp2_with (go_at_call 54; ((with_reducible refine (hP.out _).mono ?_); rintro e w1 ⟨rfl, hb1⟩))
          refine bodyPost_ret (v := .tuple #[.int .i64 0, .int .i64 0, .int .i64 5]) (by simp [results, Tryd.results41, go_sem]) rfl ?_
          rw [hR.out]
          exact ⟨rfl, onB hb hb1⟩
        | some n =>
          have hP := Lib.hid (parse_yes s k hs hn)
          by_cases hl : k + 1 < s.size
          · by_cases hd : s[k + 1].toNat = 10
            · have hR : Hid (T = .inr (n, k + 2)) := Lib.hid (by rw [← hTH.out]; exact wh_yes hlt hc.out hn hl (byte_is hd (by decide)))
              have hq3 : ((s[k + 1].toNat : Int) != 10) = false := by rw [hd]; rfl
              have hq4 : ((k : Int) + 1 == s.size) = false := beq_eq_false_iff_ne.2 (by omega)
              clear hTH hn
              go_wp2_with (go_at_call 54; ((with_reducible refine (hP.out _).mono ?_); rintro e w1 ⟨rfl, hb1⟩))
              all_goals first
                | (exfalso; omega)
                | (refine bodyPost_ret (v := .tuple #[.int .i64 n, .int .i64 ((k : Int) + 2), .int .i64 0]) (by simp [results, Tryd.results41, go_sem]) rfl ?_
                   rw [hR.out]
                   exact ⟨rfl, onB hb hb1⟩)
            · have hR : Hid (T = .inl 5) := Lib.hid (by rw [← hTH.out]; exact wh_no hlt hc.out hn hl (fun e => hd (by rw [e]; rfl)))
              have hq3 : ((s[k + 1].toNat : Int) != 10) = true := bne_iff_ne.2 (by omega)
              clear hTH hn
              go_wp2_with (go_at_call 54; ((with_reducible refine (hP.out _).mono ?_); rintro e w1 ⟨rfl, hb1⟩))
              all_goals first
                | (exfalso; omega)
                | (refine bodyPost_ret (v := .tuple #[.int .i64 0, .int .i64 0, .int .i64 5]) (by simp [results, Tryd.results41, go_sem]) rfl ?_
                   rw [hR.out]
                   exact ⟨rfl, onB hb hb1⟩)
          · have hn1 : k + 1 = s.size := by omega
            have hR : Hid (T = .inl 4) := Lib.hid (by rw [← hTH.out]; exact wh_end hlt hc.out hn hn1)
            have hq4 : ((k : Int) + 1 == s.size) = true := by simp; omega
            clear hTH hn
            go_wp2_with (go_at_call 54; ((with_reducible refine (hP.out _).mono ?_); rintro e w1 ⟨rfl, hb1⟩))
            all_goals first
              | (exfalso; omega)
              | (refine bodyPost_ret (v := .tuple #[.int .i64 0, .int .i64 0, .int .i64 4]) (by simp [results, Tryd.results41, go_sem]) rfl ?_
                 rw [hR.out]
                 exact ⟨rfl, onB hb hb1⟩)
      · have hq : ((s[k].toNat : Int) == 13) = false := beq_eq_false_iff_ne.2 (by omega)
        have hne : s[k] ≠ 13 := fun e => h13 (by rw [e]; rfl)
        cases hn : numOf (s.data.toList.take (k + 1)) with
        | some n =>
          have hR : Hid (whF (s.data.toList.take (k + 1)) (s.data.toList.drop (k + 1)) = T) := Lib.hid (by rw [← hTH.out]; exact (wh_more hlt hn).symm)
          have hP := Lib.hid (parse_yes s (k + 1) hs hn)
          clear hTH hn hne
          go_wp2_with (go_at_call 54; ((with_reducible refine (hP.out _).mono ?_); rintro e w1 ⟨rfl, hb1⟩))
          go_roundw
          case rel => exact ⟨k + 1, by go_num, by omega, hR, onB hb hb1⟩
          case measure => simp [intOf]; omega
        | none =>
          have hP := Lib.hid (parse_no s (k + 1) hs hn)
          rcases Nat.eq_zero_or_pos k with hz | hz
          · subst hz
            by_cases h45 : s[0].toNat = 45
            · have hR : Hid (whF (s.data.toList.take 1) (s.data.toList.drop 1) = T) := Lib.hid (by rw [← hTH.out]; exact (wh_minus hlt (byte_is h45 (by decide))).symm)
              have hq4 : ((s[(0 : Nat)].toNat : Int) != 45) = false := by rw [h45]; rfl
              clear hTH hn hne
              go_wp2_with (go_at_call 54; ((with_reducible refine (hP.out _).mono ?_); rintro e w1 ⟨rfl, hb1⟩))
              go_roundw
              case rel => exact ⟨0 + 1, by go_num, by omega, hR, onB hb hb1⟩
              case measure => simp [intOf]; omega
            · have hR : Hid (T = .inl 5) := Lib.hid (by rw [← hTH.out]; exact wh_bad hlt hne (fun e => h45 (by rw [e.2]; rfl)) hn)
              have hq4 : ((s[(0 : Nat)].toNat : Int) != 45) = true := bne_iff_ne.2 (by omega)
              clear hTH hn hne
              go_wp2_with (go_at_call 54; ((with_reducible refine (hP.out _).mono ?_); rintro e w1 ⟨rfl, hb1⟩))
              refine bodyPost_ret (v := .tuple #[.int .i64 0, .int .i64 0, .int .i64 5]) (by simp [results, Tryd.results41, go_sem]) rfl ?_
              rw [hR.out]
              exact ⟨rfl, onB hb hb1⟩
          · have hR : Hid (T = .inl 5) := Lib.hid (by rw [← hTH.out]; exact wh_bad hlt hne (fun e => by omega) hn)
            clear hTH hn hne
            go_wp2_with (go_at_call 54; ((with_reducible refine (hP.out _).mono ?_); rintro e w1 ⟨rfl, hb1⟩))
            all_goals first
              | (exfalso; omega)
              | (refine bodyPost_ret (v := .tuple #[.int .i64 0, .int .i64 0, .int .i64 5]) (by simp [results, Tryd.results41, go_sem]) rfl ?_
                 rw [hR.out]
                 exact ⟨rfl, onB hb hb1⟩)
    · have hR : Hid (T = .inl 4) := Lib.hid (by
        rw [← hTH.out, List.drop_eq_nil_of_le (by simp; omega)]; rfl)
      clear hTH
      go_wp2_with fail
      refine bodyPost_ret (v := .tuple #[.int .i64 0, .int .i64 0, .int .i64 4]) (by simp [results, Tryd.results41, go_sem]) rfl ?_
      rw [hR.out]
      exact ⟨rfl, hb⟩
end Go.Proofs.YtogbjhpkbdmllaaDoor
