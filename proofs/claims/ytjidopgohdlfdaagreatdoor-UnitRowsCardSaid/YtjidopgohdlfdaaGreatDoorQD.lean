/-
  The walk of the reader of a decimal and its line's end. Premises: the text is no longer than 1048576 bytes; the most is at most 1048576.
-/
import Derived.Test.YtjidopgohdlfdaaGreatDoorQB
namespace Go.Proofs.YtjidopgohdlfdaaGreatDoor
open Go.RowKit Dec Pq S4

/-- How the reader of a decimal ends. -/
def hdN (R : Sum Int (Nat × Nat)) : Int := match R with | .inl _ => 0 | .inr (n, _) => n
def hdS (R : Sum Int (Nat × Nat)) : Int := match R with | .inl _ => 0 | .inr (_, k) => k
def hdE (R : Sum Int (Nat × Nat)) : Int := match R with | .inl e => if e = -1 then 0 else e | .inr _ => 0
theorem str_cons (s : ByteArray) (k : Nat) (h : k < s.size) : s.data.toList.drop k = s[k] :: s.data.toList.drop (k + 1) := S4.str_cons s k h
theorem sl_data (s : ByteArray) (i j : Nat) : (s.extract i j).data.toList = (s.data.toList.take j).drop i := by simp [List.drop_take]
/-- What was read of the decimal: k bytes behind the mark. -/
def pr (s : ByteArray) (k : Nat) : List UInt8 := (s.data.toList.drop 1).take k
theorem pr_next {s : ByteArray} {k : Nat} (h : k + 1 < s.size) : pr s (k + 1) = pr s k ++ [s[k + 1]] := by
  unfold pr
  rw [List.take_succ_eq_append_getElem (by simp; omega)]
  simp
  rfl
theorem pr_len {s : ByteArray} {k : Nat} (h : k + 1 ≤ s.size) : (pr s k).length = k := by unfold pr; simp; omega
theorem pr_data (s : ByteArray) (k : Nat) : (s.extract 1 (k + 1)).data.toList = pr s k := by
  rw [sl_data, pr, List.take_drop, Nat.add_comm]
theorem pr_ne {s : ByteArray} {k : Nat} (h : k + 1 ≤ s.size) (hk : 0 < k) : pr s k ≠ [] := fun e => by
  have := pr_len h
  rw [e] at this
  simp at this
  omega
theorem read_as (t : ByteArray) (most : Int) (w : World) (ht : t.size ≤ maxLen) (a b : Int) (h : Hid (rdN (parN t.data.toList) (parB t.data.toList) 0 most = a ∧ rdE (parN t.data.toList) (parB t.data.toList) 0 most = b)) :
    Calls Tryz.prog 93 #[.string t, .int .i64 0, .int .i64 most] w fun e w' => e = .returned (.tuple #[.int .i64 a, .int .i64 b]) ∧ w = w' :=
  (read_any t 0 most w ht).mono fun e w' ⟨h1, h2⟩ => ⟨by rw [h1, h.out.1, h.out.2], h2.symm⟩
theorem ended_as (t : ByteArray) (w : World) (k : Int) (h : Hid (endsF t.data.toList = k)) : Calls Tryz.prog 83 #[.string t] w fun e w' => e = .returned (.tuple #[.bool (k == 0), .int .i64 (if k = 5 then 5 else 0)]) ∧ w = w' :=
  (ended_any t w).mono fun e w' ⟨h1, h2⟩ => ⟨by rw [h1]; unfold endB endE; rw [h.out], h2⟩
theorem nat_val (s : ByteArray) (k : Nat) {m : Int} (h : numOf (pr s k) = some m) : parN (pr s k) = m ∧ parB (pr s k) = true := par_some h

theorem rfl_par (s : ByteArray) : Value.int .i64 0 = Value.int .i64 (parN (pr s 0)) := by
  have : parN (pr s 0) = 0 := by show parN [] = 0; decide +kernel
  rw [this]
theorem nodig_of {s : ByteArray} {k : Nat} (h : ∀ h : k < s.size, dg s[k] = false) : NoDig (s.data.toList.drop k) := by
  intro c t e
  have hl : k < s.size := by
    rcases Nat.lt_or_ge k s.size with h1 | h1
    · exact h1
    · rw [List.drop_eq_nil_of_le (by simpa using h1)] at e; cases e
  rw [str_cons s k hl] at e
  obtain ⟨rfl, _⟩ := List.cons.inj e
  exact h hl
theorem drop_ne {s : ByteArray} {k : Nat} (h : k < s.size) : s.data.toList.drop k ≠ [] := by rw [str_cons s k h]; simp
theorem drop_end {s : ByteArray} {k : Nat} (h : s.size ≤ k) : s.data.toList.drop k = [] := List.drop_eq_nil_of_le (by simpa using h)

set_option maxRecDepth 100000 in
set_option maxHeartbeats 4000000 in
theorem head_any (s : ByteArray) (mark : UInt8) (most ab : Int) (w : World) (hs : s.size ≤ 1000000000) (hm1 : most ≤ 1048576) (hab : ab ≠ -1) :
    Calls Tryz.prog 86 #[.string s, .int .u8 (mark.toNat : Int), .int .i64 most, .int .i64 ab] w fun e w' =>
      e = .returned (.tuple #[.int .i64 (hdN (firstF mark most ab s.data.toList)), .int .i64 (hdS (firstF mark most ab s.data.toList)), .int .i64 (hdE (firstF mark most ab s.data.toList))]) ∧ w = w' := by
  obtain ⟨R, hR0⟩ : ∃ R, firstF mark most ab s.data.toList = R := ⟨_, rfl⟩
  rw [hR0]
  by_cases h0 : s.data.toList = []
  · have he : s.toList = [] := by rw [Lib.toList_data]; exact h0
    have hR : Hid (R = .inl (-1)) := Lib.hid (by rw [← hR0, h0]; rfl)
    clear hR0 h0
    go_enter Tryz.func86, Tryz.ntmps86
    go_wp2_with fail
    refine bodyPost_ret (v := .tuple #[.int .i64 0, .int .i64 0, .int .i64 0]) (by simp [results, Tryz.results86, go_sem]) rfl ⟨?_, rfl⟩
    rw [hR.out]; rfl
  have he : s.toList.isEmpty = false := by rw [Lib.toList_data]; simpa using h0
  have hpos : 0 < s.size := by
    rcases Nat.eq_zero_or_pos s.size with h | h
    · exact absurd (List.eq_nil_of_length_eq_zero (by simpa using h)) h0
    · exact h
  have hcons := str_cons s 0 hpos
  rw [List.drop_zero] at hcons
  by_cases hc : s[(0 : Nat)] = mark
  · have hR1 : Hid (firstGo most ab (pr s 0) (s.data.toList.drop 1) = R) := Lib.hid (by
      rw [← hR0]; conv => rhs; rw [hcons]
      rw [firstF, if_neg (by simpa using hc)]; rfl)
    have hq : ((s[(0 : Nat)].toNat : Int) != (mark.toNat : Int)) = false := by rw [hc]; simp
    clear hR0 hcons h0 hc
    go_enter Tryz.func86, Tryz.ntmps86
    go_wp2_with fail
    go_loop [11, 12] (fun n i => ∃ k : Nat, i = .int .i64 ((k : Int) + 1) ∧ k + 1 ≤ s.size ∧ n = .int .i64 (parN (pr s k)) ∧ Hid (Pre most (pr s k)) ∧ Hid (firstGo most ab (pr s k) (s.data.toList.drop (k + 1)) = R)) (fun _ i => s.size - (intOf i).toNat)
    case atStart => exact ⟨0, rfl, by omega, rfl_par s, Lib.hid (Or.inl rfl), hR1⟩
    case round =>
      clear hR1
      obtain ⟨k, rfl, hk, rfl, hP, hR⟩ := hrel
      by_cases hlt : k + 1 < s.size
      · by_cases hdg : dg s[k + 1] = true
        · have hd2 : 48 ≤ s[k + 1].toNat ∧ s[k + 1].toNat ≤ 57 := of_decide_eq_true hdg
          have hcons := str_cons s (k + 1) hlt
          have hnx := pr_next hlt
          have hln : (s.extract 1 (k + 1 + 1)).size ≤ maxLen := by unfold maxLen; simp; omega
          have hRd := read_as (s.extract 1 (k + 1 + 1)) most
          rw [pr_data] at hRd
          cases hn : numOf (pr s (k + 1)) with
          | none =>
            have hRR : Hid (R = .inl 5) := Lib.hid (by rw [← hR.out, hcons]; exact (fg_none hm1 hP.out hdg (by rw [← hnx]; exact hn)).2)
            have hE := Lib.hid (fun w => hRd w hln 0 2 (Lib.hid (by rw [(par_none hn).1, (par_none hn).2]; exact ⟨rfl, rfl⟩)))
            clear hcons hnx hRd hn hR hP hdg hln
            go_wp2_with (go_at_call 93; ((with_reducible refine (hE.out _).mono ?_); rintro e w' ⟨rfl, rfl⟩))
            all_goals first
              | (exfalso; omega)
              | (refine bodyPost_ret (v := .tuple #[.int .i64 (0), .int .i64 (0), .int .i64 (5)]) (by simp [results, Tryz.results86, go_sem]) rfl ⟨?_, rfl⟩; rw [hRR.out]; rfl)
          | some n =>
            have hn0 : 0 ≤ n := pre_next hm1 hP.out hdg (by rw [← hnx]; exact hn)
            have hpar := nat_val s (k + 1) hn
            by_cases hov : most < n
            · have hRR : Hid (R = .inl ab) := Lib.hid (by rw [← hR.out, hcons]; exact firstGo_big hdg (by rw [← hnx]; exact hn) hov)
              have hE := Lib.hid (fun w => hRd w hln 0 3 (Lib.hid (by rw [hpar.1, hpar.2]; unfold rdN rdE; rw [if_pos rfl, if_pos rfl, if_pos (Or.inr hov), if_pos (Or.inr hov)]; exact ⟨rfl, rfl⟩)))
              clear hcons hnx hRd hn hR hP hdg hln hpar
              go_wp2_with (go_at_call 93; ((with_reducible refine (hE.out _).mono ?_); rintro e w' ⟨rfl, rfl⟩))
              all_goals first
                | (exfalso; omega)
                | (refine bodyPost_ret (v := .tuple #[.int .i64 0, .int .i64 0, .int .i64 ab]) (by simp [results, Tryz.results86, go_sem]) rfl ⟨?_, rfl⟩; rw [hRR.out]; simp only [hdN, hdS, hdE]; rw [if_neg hab])
            · have hRR : Hid (firstGo most ab (pr s (k + 1)) (s.data.toList.drop (k + 1 + 1)) = R) := Lib.hid (by rw [← hR.out, hcons, hnx]; exact (firstGo_dig hdg (by rw [← hnx]; exact hn) (by omega)).symm)
              have hE := Lib.hid (fun w => hRd w hln n 0 (Lib.hid (by rw [hpar.1, hpar.2]; unfold rdN rdE; rw [if_pos rfl, if_pos rfl, if_neg (by omega), if_neg (by omega)]; exact ⟨rfl, rfl⟩)))
              have hP2 : Hid (Pre most (pr s (k + 1))) := Lib.hid (Or.inr ⟨n, hn, hn0, by omega⟩)
              have hpn := Lib.hid hpar.1
              clear hcons hnx hRd hn hR hP hdg hln hpar
              go_wp2_with (go_at_call 93; ((with_reducible refine (hE.out _).mono ?_); rintro e w' ⟨rfl, rfl⟩))
              all_goals first
                | (exfalso; omega)
                | (go_round
                   case rel => exact ⟨k + 1, by go_num, by omega, by rw [hpn.out], hP2, hRR⟩
                   case measure => simp [intOf]; omega)
        · have hdg : dg s[k + 1] = false := by simpa using hdg
          have hd2 : s[k + 1].toNat < 48 ∨ 57 < s[k + 1].toNat := by have := of_decide_eq_false hdg; omega
          have hND : NoDig (s.data.toList.drop (k + 1)) := nodig_of (fun h => hdg)
          have hne := drop_ne hlt
          by_cases hk0 : k = 0
          · subst hk0
            have hRR : Hid (R = .inl 5) := Lib.hid (by rw [← hR.out]; exact fa_none hND hne)
            have hd3 : s[1].toNat < 48 ∨ 57 < s[1].toNat := hd2
            clear hND hne hR hP hdg hd2
            go_wp2_with fail
            all_goals first
              | (exfalso; omega)
              | (refine bodyPost_ret (v := .tuple #[.int .i64 (0), .int .i64 (0), .int .i64 (5)]) (by simp [results, Tryz.results86, go_sem]) rfl ⟨?_, rfl⟩; rw [hRR.out]; rfl)
          · have hEn := ended_as (s.extract (k + 1) s.size)
            rw [ext_data] at hEn
            rcases endsF_cases (s.data.toList.drop (k + 1)) with hz | hz | hz
            · have hk1 : k ≠ 0 := fun e => by subst e; exact hk0 rfl
              obtain ⟨m, hm, hm0', hm1'⟩ : ∃ m : Int, numOf (pr s k) = some m ∧ 0 ≤ m ∧ m ≤ most := hP.out.resolve_left (pr_ne hk (Nat.pos_of_ne_zero hk1))
              have hRR : Hid (R = .inr (m.toNat, (pr s k).length + 3)) := Lib.hid (by rw [← hR.out]; exact fa_ok hND (pr_ne hk (Nat.pos_of_ne_zero hk1)) hm hz)
              rw [pr_len hk] at hRR
              have hpm := (nat_val s k hm).1
              rw [hpm]
              have hE := Lib.hid (fun w => hEn w 0 (Lib.hid hz))
              clear hND hne hR hP hdg hEn hz hm hpm
              go_wp2_with (go_at_call 83; ((with_reducible refine (hE.out _).mono ?_); rintro e w' ⟨rfl, rfl⟩))
              all_goals first
                | (exfalso; omega)
                | (refine bodyPost_ret (v := .tuple #[.int .i64 m, .int .i64 ((k : Int) + 1 + 2), .int .i64 0]) (by simp [results, Tryz.results86, go_sem]) rfl ⟨?_, rfl⟩; rw [hRR.out]; simp only [hdN, hdS, hdE]; rw [show ((m.toNat : Nat) : Int) = m by omega, show ((k + 3 : Nat) : Int) = (k : Int) + 1 + 2 by omega])
            · have hRR : Hid (R = .inl (-1)) := Lib.hid (by rw [← hR.out]; exact fa_more hND (Or.inl (pr_ne hk (Nat.pos_of_ne_zero hk0))) hz)
              have hE := Lib.hid (fun w => hEn w (-1) (Lib.hid hz))
              clear hND hne hR hP hdg hEn hz
              go_wp2_with (go_at_call 83; ((with_reducible refine (hE.out _).mono ?_); rintro e w' ⟨rfl, rfl⟩))
              all_goals first
                | (exfalso; omega)
                | (refine bodyPost_ret (v := .tuple #[.int .i64 (0), .int .i64 (0), .int .i64 (0)]) (by simp [results, Tryz.results86, go_sem]) rfl ⟨?_, rfl⟩; rw [hRR.out]; rfl)
            · have hRR : Hid (R = .inl 5) := Lib.hid (by rw [← hR.out]; exact fa_bad hND hz)
              have hE := Lib.hid (fun w => hEn w 5 (Lib.hid hz))
              clear hND hne hR hP hdg hEn hz
              go_wp2_with (go_at_call 83; ((with_reducible refine (hE.out _).mono ?_); rintro e w' ⟨rfl, rfl⟩))
              all_goals first
                | (exfalso; omega)
                | (refine bodyPost_ret (v := .tuple #[.int .i64 (0), .int .i64 (0), .int .i64 (5)]) (by simp [results, Tryz.results86, go_sem]) rfl ⟨?_, rfl⟩; rw [hRR.out]; rfl)
      · have hend : k + 1 = s.size := by omega
        have hRR : Hid (R = .inl (-1)) := Lib.hid (by
          rw [← hR.out]
          exact fa_more (nodig_of (fun h => absurd h (by omega))) (Or.inr (drop_end (by omega))) (by rw [drop_end (by omega)]; rfl))
        by_cases hk0 : k = 0
        · subst hk0
          have hE := Lib.hid (fun w => ended_as (s.extract 1 s.size) w (-1) (Lib.hid (by rw [ext_data, drop_end (by omega)]; rfl)))
          clear hR hP
          go_wp2_with (go_at_call 83; ((with_reducible refine (hE.out _).mono ?_); rintro e w' ⟨rfl, rfl⟩))
          all_goals first
            | (exfalso; omega)
            | (refine bodyPost_ret (v := .tuple #[.int .i64 0, .int .i64 0, .int .i64 0]) (by simp [results, Tryz.results86, go_sem]) rfl ⟨?_, rfl⟩; rw [hRR.out]; rfl)
        · have hE := Lib.hid (fun w => ended_as ByteArray.empty w (-1) (Lib.hid rfl))
          clear hR hP
          go_wp2_with (go_at_call 83; ((with_reducible refine (hE.out _).mono ?_); rintro e w' ⟨rfl, rfl⟩))
          all_goals first
            | (exfalso; omega)
            | (refine bodyPost_ret (v := .tuple #[.int .i64 0, .int .i64 0, .int .i64 0]) (by simp [results, Tryz.results86, go_sem]) rfl ⟨?_, rfl⟩; rw [hRR.out]; rfl)
  · have hR : Hid (R = .inl 5) := Lib.hid (by rw [← hR0, hcons, firstF, if_pos hc])
    have hq : ((s[(0 : Nat)].toNat : Int) != (mark.toNat : Int)) = true := bne_iff_ne.2 fun e => hc (UInt8.toNat_inj.1 (by omega))
    clear hR0 hcons h0 hc
    go_enter Tryz.func86, Tryz.ntmps86
    go_wp2_with fail
    refine bodyPost_ret (v := .tuple #[.int .i64 0, .int .i64 0, .int .i64 5]) (by simp [results, Tryz.results86, go_sem]) rfl ⟨?_, rfl⟩
    rw [hR.out]; rfl
end Go.Proofs.YtjidopgohdlfdaaGreatDoor
