/-
  The walk of the reference's reader of a length. A premise: the text is no longer than an int holds; the most is at most 1048576.
-/
import Derived.Test.YtogbjhpkbdmllaaDoorRW
namespace Go.Proofs.YtogbjhpkbdmllaaDoor
open Go.RowKit Rp Dec

theorem head_take {s : ByteArray} {k : Nat} (h : 0 < s.size) (hk : 0 < k) : (s.data.toList.take k).head? = some s[0] := by
  have hl : 0 < s.data.toList.length := by simpa using h
  cases k with
  | zero => omega
  | succ k =>
    have := line_drop (s := s) (k := 0) h
    rw [List.drop_zero] at this
    rw [this]
    rfl
/-- What the reader of a length has read. -/
def HdIn (most : Int) (s : ByteArray) (k : Nat) : Prop := k = 0 ∨ (s.data.toList.take k).head? = some 45 ∨ ∃ m, numOf (s.data.toList.take k) = some m ∧ 0 ≤ m ∧ m ≤ most

/-- Where a digit more is no number: behind a minus, or behind a leading nought. -/
theorem hd_no_more {s : ByteArray} {k : Nat} {most : Int} (h : k < s.size) (hm1 : most ≤ 1048576) (hIn : HdIn most s k) (hd : isDig s[k] = true) (hn : numOf (s.data.toList.take (k + 1)) = none) : s[0].toNat = 45 ∨ (s[0].toNat = 48 ∧ 0 < k) := by
  rw [line_take h] at hn
  rcases hIn with rfl | h45 | ⟨m, hm, h0, h1⟩
  · obtain ⟨n, e⟩ := num_one hd
    rw [List.take_zero, List.nil_append, e] at hn
    cases hn
  · have hk : 0 < k := by
      rcases Nat.eq_zero_or_pos k with e | e
      · subst e; cases h45
      · exact e
    rw [head_take (by omega) hk] at h45
    exact Or.inl (by rw [Option.some.inj h45]; rfl)
  · by_cases hz : m = 0
    · subst hz
      obtain ⟨hl, _, _⟩ := numOf_some _ _ hm
      have hk : 0 < k := by
        rcases Nat.eq_zero_or_pos k with e | e
        · subst e; rw [List.take_zero, numOf_nil] at hm; cases hm
        · exact e
      have h2 : (s.data.toList.take k).head? = some 48 := by
        rw [← hl]
        have : Lib.itoa (0 : Int) = [48] := by rw [show (0 : Int) = ((0 : Nat) : Int) from rfl, itoa_nat, dec_zero]
        rw [this]; rfl
      rw [head_take (by omega) hk] at h2
      exact Or.inr ⟨by rw [Option.some.inj h2]; rfl, hk⟩
    · obtain ⟨n, e⟩ := num_next hm (by omega) (by omega) hd
      rw [e] at hn
      cases hn

set_option maxRecDepth 100000 in
set_option maxHeartbeats 4000000 in
theorem header_any (s : ByteArray) (most ab : Int) (w : World) (hs : s.size < 4294967281) (hm0 : 0 ≤ most) (hm1 : most ≤ 1048576) : Calls Tryd.prog 55 #[.string s, .int .i64 most, .int .i64 ab] w fun e w' => WholeEnd (decGo (-1) most ab [] s.data.toList) e ∧ Below w.heap.size w w' := by
  obtain ⟨T, hT⟩ : ∃ T, decGo (-1) most ab [] s.data.toList = T := ⟨_, rfl⟩
  rw [hT]
  have hTH := Lib.hid hT
  clear hT
  go_enter Tryd.func55, Tryd.ntmps55
  go_wp2_with fail
  have hb0 : Below w.heap.size w w := Below.refl _ _
  go_loopw [9] (fun i wr => ∃ k : Nat, i = .int .i64 k ∧ k ≤ s.size ∧ Hid (decGo (-1) most ab (s.data.toList.take k) (s.data.toList.drop k) = T) ∧ Hid (HdIn most s k) ∧ Below w.heap.size w wr) (fun i _ => s.size - (intOf i).toNat)
  case atStart => exact ⟨0, rfl, Nat.zero_le _, hTH, Lib.hid (Or.inl rfl), hb0⟩
  case round =>
    clear hTH hb0
    obtain ⟨k, rfl, hk, hTH, hIn, hb⟩ := hrel
    by_cases hlt : k < s.size
    · by_cases h13 : s[k].toNat = 13
      · have hq : ((s[k].toNat : Int) == 13) = true := by rw [h13]; rfl
        have hc := Lib.hid (byte_is h13 (by decide))
        cases hn : numOf (s.data.toList.take k) with
        | none =>
          have hR : Hid (T = .inl 5) := Lib.hid (by rw [← hTH.out]; exact hd_none hlt hc.out hn)
          have hP := Lib.hid (parse_no s k hs hn)
          clear hTH hn
          go_wp2_with (go_at_call 54; ((with_reducible refine (hP.out _).mono ?_); rintro e w1 ⟨rfl, hb1⟩))
          refine bodyPost_ret (v := .tuple #[.int .i64 0, .int .i64 0, .int .i64 5]) (by simp [results, Tryd.results55, go_sem]) rfl ?_
          rw [hR.out]
          exact ⟨rfl, onB hb hb1⟩
        | some n =>
          have hP := Lib.hid (parse_yes s k hs hn)
          by_cases hl : k + 1 < s.size
          · have hq4 : ((k : Int) + 1 == s.size) = false := beq_eq_false_iff_ne.2 (by omega)
            by_cases hd : s[k + 1].toNat = 10
            · have hR : Hid (T = .inr (n, k + 2)) := Lib.hid (by rw [← hTH.out]; exact hd_yes hlt hc.out hn hl (byte_is hd (by decide)))
              have hq3 : ((s[k + 1].toNat : Int) != 10) = false := by rw [hd]; rfl
              clear hTH hn
              go_wp2_with (go_at_call 54; ((with_reducible refine (hP.out _).mono ?_); rintro e w1 ⟨rfl, hb1⟩))
              all_goals first
                | (exfalso; omega)
                | (refine bodyPost_ret (v := .tuple #[.int .i64 n, .int .i64 ((k : Int) + 2), .int .i64 0]) (by simp [results, Tryd.results55, go_sem]) rfl ?_
                   rw [hR.out]
                   exact ⟨rfl, onB hb hb1⟩)
            · have hR : Hid (T = .inl 5) := Lib.hid (by rw [← hTH.out]; exact hd_no hlt hc.out hn hl (fun e => hd (by rw [e]; rfl)))
              have hq3 : ((s[k + 1].toNat : Int) != 10) = true := bne_iff_ne.2 (by omega)
              clear hTH hn
              go_wp2_with (go_at_call 54; ((with_reducible refine (hP.out _).mono ?_); rintro e w1 ⟨rfl, hb1⟩))
              all_goals first
                | (exfalso; omega)
                | (refine bodyPost_ret (v := .tuple #[.int .i64 0, .int .i64 0, .int .i64 5]) (by simp [results, Tryd.results55, go_sem]) rfl ?_
                   rw [hR.out]
                   exact ⟨rfl, onB hb hb1⟩)
          · have hn1 : k + 1 = s.size := by omega
            have hR : Hid (T = .inl 4) := Lib.hid (by rw [← hTH.out]; exact hd_end hlt hc.out hn hn1)
            have hq4 : ((k : Int) + 1 == s.size) = true := by simp; omega
            clear hTH hn
            go_wp2_with (go_at_call 54; ((with_reducible refine (hP.out _).mono ?_); rintro e w1 ⟨rfl, hb1⟩))
            all_goals first
              | (exfalso; omega)
              | (refine bodyPost_ret (v := .tuple #[.int .i64 0, .int .i64 0, .int .i64 4]) (by simp [results, Tryd.results55, go_sem]) rfl ?_
                 rw [hR.out]
                 exact ⟨rfl, onB hb hb1⟩)
      · have hq : ((s[k].toNat : Int) == 13) = false := beq_eq_false_iff_ne.2 (by omega)
        have hne : s[k] ≠ 13 := fun e => h13 (by rw [e]; rfl)
        have h00 : 0 < s.size := by omega
        by_cases hA : k = 0 ∧ s[k].toNat = 45
        · obtain ⟨rfl, h45⟩ := hA
          have hR : Hid (decGo (-1) most ab (s.data.toList.take 1) (s.data.toList.drop 1) = T) := Lib.hid (by rw [← hTH.out]; exact (hd_minus hlt (byte_is h45 (by decide))).symm)
          have hI : Hid (HdIn most s 1) := Lib.hid (Or.inr (Or.inl (by rw [head_take h00 (by decide)]; exact congrArg some (byte_is h45 (by decide)))))
          have hq4 : ((s[(0 : Nat)].toNat : Int) == 45) = true := by rw [h45]; rfl
          clear hTH hIn hne
          go_wp2_with fail
          go_roundw
          case rel => exact ⟨0 + 1, by go_num, by omega, hR, hI, hb⟩
          case measure => simp [intOf]; omega
        · by_cases hdg : isDig s[k] = true
          · have hdg2 : 48 ≤ s[k].toNat ∧ s[k].toNat ≤ 57 := of_decide_eq_true hdg
            cases hn : numOf (s.data.toList.take (k + 1)) with
            | none =>
              have hR : Hid (T = .inl 5) := Lib.hid (by rw [← hTH.out]; exact hd_bad hlt hne (fun e => hA ⟨e.1, by rw [e.2]; rfl⟩) hn)
              have hP := Lib.hid (parse_no s (k + 1) hs hn)
              have hw := hd_no_more hlt hm1 hIn.out hdg hn
              clear hTH hn hne hIn hdg
              rcases hw with h45 | ⟨h48, hk1⟩
              · have hk0 : 0 < k := Nat.pos_of_ne_zero fun e => by subst e; exact hA ⟨rfl, h45⟩
                have hq4 : ((s[(0 : Nat)].toNat : Int) == 45) = true := by rw [h45]; rfl
                go_wp2_with (go_at_call 54; ((with_reducible refine (hP.out _).mono ?_); rintro e w1 ⟨rfl, hb1⟩))
                all_goals first
                  | (exfalso; omega)
                  | (refine bodyPost_ret (v := .tuple #[.int .i64 0, .int .i64 0, .int .i64 5]) (by simp [results, Tryd.results55, go_sem]) rfl ?_
                     rw [hR.out]
                     exact ⟨rfl, onB hb hb1⟩)
              · have hq4 : ((s[(0 : Nat)].toNat : Int) == 45) = false := by rw [h48]; rfl
                have hq5 : ((s[(0 : Nat)].toNat : Int) == 48) = true := by rw [h48]; rfl
                go_wp2_with (go_at_call 54; ((with_reducible refine (hP.out _).mono ?_); rintro e w1 ⟨rfl, hb1⟩))
                all_goals first
                  | (exfalso; omega)
                  | (refine bodyPost_ret (v := .tuple #[.int .i64 0, .int .i64 0, .int .i64 5]) (by simp [results, Tryd.results55, go_sem]) rfl ?_
                     rw [hR.out]
                     exact ⟨rfl, onB hb hb1⟩)
            | some n =>
              have hP := Lib.hid (parse_yes s (k + 1) hs hn)
              have hmi := num_minus hn
              rw [head_take h00 (by omega)] at hmi
              have hno : ¬ (s[0].toNat = 48 ∧ 0 < k) := fun e => by
                rw [line_take hlt] at hn
                exact num_nought (by rw [head_take h00 e.2]; exact congrArg some (byte_is e.1 (by decide))) hn
              have hmi' : s[0].toNat = 45 ↔ n < 0 := by
                rw [← hmi]
                exact ⟨fun e => congrArg some (byte_is e (by decide)), fun e => by rw [Option.some.inj e]; rfl⟩
              clear hmi
              by_cases hlow : n < -1
              · have hR : Hid (T = .inl 5) := Lib.hid (by rw [← hTH.out]; exact hd_low hlt hn hlow)
                have hk0 : 0 < k := Nat.pos_of_ne_zero fun e => by subst e; exact hA ⟨rfl, hmi'.2 (by omega)⟩
                have hq4 : ((s[(0 : Nat)].toNat : Int) == 45) = true := by rw [hmi'.2 (by omega)]; rfl
                have hq5 : (n != -1) = true := bne_iff_ne.2 (by omega)
                clear hTH hn hne hIn hdg hmi' hno
                go_wp2_with (go_at_call 54; ((with_reducible refine (hP.out _).mono ?_); rintro e w1 ⟨rfl, hb1⟩))
                all_goals first
                  | (exfalso; omega)
                  | (refine bodyPost_ret (v := .tuple #[.int .i64 0, .int .i64 0, .int .i64 5]) (by simp [results, Tryd.results55, go_sem]) rfl ?_
                     rw [hR.out]
                     exact ⟨rfl, onB hb hb1⟩)
              · by_cases hm : n = -1
                · subst hm
                  have hR : Hid (decGo (-1) most ab (s.data.toList.take (k + 1)) (s.data.toList.drop (k + 1)) = T) := Lib.hid (by rw [← hTH.out]; exact (hd_more hlt hn (by omega) (by omega)).symm)
                  have h45 := hmi'.2 (by omega)
                  have hk0 : 0 < k := Nat.pos_of_ne_zero fun e => by subst e; exact hA ⟨rfl, h45⟩
                  have hI : Hid (HdIn most s (k + 1)) := Lib.hid (Or.inr (Or.inl (by rw [head_take h00 (by omega)]; exact congrArg some (byte_is h45 (by decide)))))
                  have hq4 : ((s[(0 : Nat)].toNat : Int) == 45) = true := by rw [h45]; rfl
                  have hq5 : ((s[(0 : Nat)].toNat : Int) == 48) = false := by rw [h45]; rfl
                  have hq6 : ((-1 : Int) != -1) = false := rfl
                  clear hTH hn hne hIn hdg hmi' hno
                  go_wp2_with (go_at_call 54; ((with_reducible refine (hP.out _).mono ?_); rintro e w1 ⟨rfl, hb1⟩))
                  all_goals first
                    | (exfalso; omega)
                    | (go_roundw
                       case rel => exact ⟨k + 1, by go_num, by omega, hR, hI, onB hb hb1⟩
                       case measure => simp [intOf]; omega)
                · have h45 : s[0].toNat ≠ 45 := fun e => by have := hmi'.1 e; omega
                  have hq4 : ((s[(0 : Nat)].toNat : Int) == 45) = false := beq_eq_false_iff_ne.2 (by omega)
                  by_cases hov : most < n
                  · have hR : Hid (T = .inl ab) := Lib.hid (by rw [← hTH.out]; exact hd_over hlt hn (by omega) hov)
                    clear hTH hn hne hIn hdg hmi'
                    rcases Nat.eq_zero_or_pos k with hz | hz
                    · subst hz
                      go_wp2_with (go_at_call 54; ((with_reducible refine (hP.out _).mono ?_); rintro e w1 ⟨rfl, hb1⟩))
                      all_goals first
                        | (exfalso; omega)
                        | (refine bodyPost_ret (v := .tuple #[.int .i64 0, .int .i64 0, .int .i64 ab]) (by simp [results, Tryd.results55, go_sem]) rfl ?_
                           rw [hR.out]
                           exact ⟨rfl, onB hb hb1⟩)
                    · have hq5 : ((s[(0 : Nat)].toNat : Int) == 48) = false := beq_eq_false_iff_ne.2 (by omega)
                      go_wp2_with (go_at_call 54; ((with_reducible refine (hP.out _).mono ?_); rintro e w1 ⟨rfl, hb1⟩))
                      all_goals first
                        | (exfalso; omega)
                        | (refine bodyPost_ret (v := .tuple #[.int .i64 0, .int .i64 0, .int .i64 ab]) (by simp [results, Tryd.results55, go_sem]) rfl ?_
                           rw [hR.out]
                           exact ⟨rfl, onB hb hb1⟩)
                  · have hR : Hid (decGo (-1) most ab (s.data.toList.take (k + 1)) (s.data.toList.drop (k + 1)) = T) := Lib.hid (by rw [← hTH.out]; exact (hd_more hlt hn (by omega) (by omega)).symm)
                    have hI : Hid (HdIn most s (k + 1)) := Lib.hid (Or.inr (Or.inr ⟨n, hn, by omega, by omega⟩))
                    clear hTH hn hne hIn hdg hmi'
                    rcases Nat.eq_zero_or_pos k with hz | hz
                    · subst hz
                      go_wp2_with (go_at_call 54; ((with_reducible refine (hP.out _).mono ?_); rintro e w1 ⟨rfl, hb1⟩))
                      all_goals first
                        | (exfalso; omega)
                        | (go_roundw
                           case rel => exact ⟨0 + 1, by go_num, by omega, hR, hI, onB hb hb1⟩
                           case measure => simp [intOf]; omega)
                    · have hq5 : ((s[(0 : Nat)].toNat : Int) == 48) = false := beq_eq_false_iff_ne.2 (by omega)
                      go_wp2_with (go_at_call 54; ((with_reducible refine (hP.out _).mono ?_); rintro e w1 ⟨rfl, hb1⟩))
                      all_goals first
                        | (exfalso; omega)
                        | (go_roundw
                           case rel => exact ⟨k + 1, by go_num, by omega, hR, hI, onB hb hb1⟩
                           case measure => simp [intOf]; omega)
          · have hR : Hid (T = .inl 5) := Lib.hid (by
              rw [← hTH.out]
              refine hd_bad hlt hne (fun e => hA ⟨e.1, by rw [e.2]; rfl⟩) ?_
              cases hn : numOf (s.data.toList.take (k + 1)) with
              | none => rfl
              | some n => rw [line_take hlt] at hn; exact absurd (numOf_last hn) hdg)
            have hdg2 : s[k].toNat < 48 ∨ 57 < s[k].toNat := by
              rcases Nat.lt_or_ge s[k].toNat 48 with h | h
              · exact Or.inl h
              · refine Or.inr (Nat.lt_of_not_le fun h2 => hdg (decide_eq_true ⟨h, h2⟩))
            clear hTH hIn hdg hne
            rcases Nat.eq_zero_or_pos k with hz | hz
            · subst hz
              have hq4 : ((s[(0 : Nat)].toNat : Int) == 45) = false := beq_eq_false_iff_ne.2 (by omega)
              go_wp2_with fail
              all_goals first
                | (exfalso; omega)
                | (refine bodyPost_ret (v := .tuple #[.int .i64 0, .int .i64 0, .int .i64 5]) (by simp [results, Tryd.results55, go_sem]) rfl ?_
                   rw [hR.out]
                   exact ⟨rfl, hb⟩)
            · go_wp2_with fail
              all_goals first
                | (exfalso; omega)
                | (refine bodyPost_ret (v := .tuple #[.int .i64 0, .int .i64 0, .int .i64 5]) (by simp [results, Tryd.results55, go_sem]) rfl ?_
                   rw [hR.out]
                   exact ⟨rfl, hb⟩)
    · have hR : Hid (T = .inl 4) := Lib.hid (by
        rw [← hTH.out, List.drop_eq_nil_of_le (by simp; omega)]; rfl)
      clear hTH
      go_wp2_with fail
      refine bodyPost_ret (v := .tuple #[.int .i64 0, .int .i64 0, .int .i64 4]) (by simp [results, Tryd.results55, go_sem]) rfl ?_
      rw [hR.out]
      exact ⟨rfl, hb⟩
end Go.Proofs.YtogbjhpkbdmllaaDoor
