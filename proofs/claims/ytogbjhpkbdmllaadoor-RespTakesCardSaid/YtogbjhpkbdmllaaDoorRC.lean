/-
  The walks of the readers of a line's end and of a decimal with its line's end. No premise but a text's length.
-/
import Derived.Test.YtogbjhpkbdmllaaDoorMem
namespace Go.Proofs.YtogbjhpkbdmllaaDoor
open Go.RowKit Rp Dec

theorem hp_eol0 {l : List UInt8} (h : endF l = 0) : Lib.hasPrefix l [13, 10] = true := by
  obtain ⟨t, rfl⟩ := endF_zero h; rfl
theorem hp_eolN {l : List UInt8} (h : endF l ≠ 0) : Lib.hasPrefix l [13, 10] = false := by
  match l, h with
  | [], _ => rfl
  | [c], _ => simp [Lib.hasPrefix, List.isPrefixOf]
  | c :: d :: t, h =>
    have h' : ¬ (c = 13 ∧ d = 10) := by
      intro e; apply h; rw [endF, if_pos e]
    simp only [Lib.hasPrefix, List.isPrefixOf, Bool.and_true]
    rw [Bool.and_eq_false_iff]
    rcases Classical.not_and_iff_not_or_not.1 h' with h | h
    · left; simpa using Ne.symm h
    · right; simpa using Ne.symm h
theorem hp_in4 {l : List UInt8} (h : endF l = 4) : Lib.hasPrefix [13, 10] l = true := by
  match l, h with
  | [], _ => rfl
  | [c], h =>
    by_cases hc : c = 13
    · subst hc; rfl
    · rw [endF, if_neg hc] at h; cases h
  | c :: d :: t, h => rw [endF] at h; split at h <;> cases h
theorem hp_in5 {l : List UInt8} (h : endF l = 5) : Lib.hasPrefix [13, 10] l = false := by
  match l, h with
  | [], h => cases h
  | [c], h =>
    by_cases hc : c = 13
    · subst hc; rw [endF, if_pos rfl] at h; cases h
    · simp only [Lib.hasPrefix, List.isPrefixOf, Bool.and_true]; simpa using hc
  | c :: d :: t, h =>
    have h' : ¬ (c = 13 ∧ d = 10) := by
      intro e; rw [endF, if_pos e] at h; cases h
    simp only [Lib.hasPrefix, List.isPrefixOf]
    rw [Bool.and_eq_false_iff]
    rcases Classical.not_and_iff_not_or_not.1 h' with h | h
    · left; simpa using h
    · right; rw [Bool.and_eq_false_iff]; left; simpa using h
theorem endF_cases (l : List UInt8) : endF l = 0 ∨ endF l = 4 ∨ endF l = 5 := by
  match l with
  | [] => exact Or.inr (Or.inl rfl)
  | [c] => rw [endF]; split <;> simp
  | c :: d :: t => rw [endF]; split <;> simp

theorem ret_bool' {a b : Bool} (h : a = b) : Ending.returned (.bool a) = .returned (.bool b) := by rw [h]
theorem pre_eol (s : ByteArray) (w : World) (q : Bool) (h : Hid (Lib.hasPrefix s.data.toList [13, 10] = q)) :
    Calls Tryd.prog 62 #[.string s, .string ⟨#[13, 10]⟩] w fun e w' => e = .returned (.bool q) ∧ w = w' :=
  (Tryd.strings_HasPrefix s ⟨#[13, 10]⟩ w).mono fun e w' ⟨he, hw⟩ => ⟨by rw [he]; exact ret_bool' h.out, hw.symm⟩
theorem pre_in (s : ByteArray) (w : World) (q : Bool) (h : Hid (Lib.hasPrefix [13, 10] s.data.toList = q)) :
    Calls Tryd.prog 62 #[.string ⟨#[13, 10]⟩, .string s] w fun e w' => e = .returned (.bool q) ∧ w = w' :=
  (Tryd.strings_HasPrefix ⟨#[13, 10]⟩ s w).mono fun e w' ⟨he, hw⟩ => ⟨by rw [he]; exact ret_bool' h.out, hw.symm⟩
set_option maxHeartbeats 1000000 in
theorem ended_any (s : ByteArray) (w : World) : Calls Tryd.prog 52 #[.string s] w fun e w' => e = .returned (.int .i64 (endF s.data.toList)) ∧ w = w' := by
  rcases endF_cases s.data.toList with h | h | h
  · have hq := Lib.hid (hp_eol0 h)
    rw [h]
    clear h
    go_enter Tryd.func52, Tryd.ntmps52
    go_wp2_with (go_at_call 62; ((with_reducible refine (pre_eol s _ true hq).mono ?_); rintro e w' ⟨rfl, rfl⟩))
    go_ret
    exact ⟨rfl, rfl⟩
  · have hq := Lib.hid (hp_eolN (l := s.data.toList) (by rw [h]; decide))
    have hq2 := Lib.hid (hp_in4 h)
    rw [h]
    clear h
    go_enter Tryd.func52, Tryd.ntmps52
    go_wp2_with (first
      | (go_at_call 62; ((with_reducible refine (pre_eol s _ false hq).mono ?_); rintro e w' ⟨rfl, rfl⟩))
      | (go_at_call 62; ((with_reducible refine (pre_in s _ true hq2).mono ?_); rintro e w' ⟨rfl, rfl⟩)))
    go_ret
    exact ⟨rfl, rfl⟩
  · have hq := Lib.hid (hp_eolN (l := s.data.toList) (by rw [h]; decide))
    have hq2 := Lib.hid (hp_in5 h)
    rw [h]
    clear h
    go_enter Tryd.func52, Tryd.ntmps52
    go_wp2_with (first
      | (go_at_call 62; ((with_reducible refine (pre_eol s _ false hq).mono ?_); rintro e w' ⟨rfl, rfl⟩))
      | (go_at_call 62; ((with_reducible refine (pre_in s _ false hq2).mono ?_); rintro e w' ⟨rfl, rfl⟩)))
    go_ret
    exact ⟨rfl, rfl⟩

theorem trim_yes (s t : ByteArray) (w : World) (h : Hid (s.data.toList = 45 :: t.data.toList)) :
    Calls Tryd.prog 63 #[.string s, .string ⟨#[45]⟩] w fun e w' => e = .returned (.string t) ∧ w = w' := by
  refine (Tryd.strings_TrimPrefix s ⟨#[45]⟩ w).mono fun e w' ⟨he, hw⟩ => ⟨?_, hw.symm⟩
  rw [he, h.out]
  have h2 : Lib.trimPrefix (45 :: t.data.toList) [45] = t.data.toList := by simp [Lib.trimPrefix, Lib.hasPrefix]
  show Ending.returned (.string ⟨(Lib.trimPrefix (45 :: t.data.toList) [45]).toArray⟩) = _
  rw [h2]
theorem trim_no (s : ByteArray) (w : World) (h : Hid (s.data.toList.head? ≠ some 45)) :
    Calls Tryd.prog 63 #[.string s, .string ⟨#[45]⟩] w fun e w' => e = .returned (.string s) ∧ w = w' := by
  refine (Tryd.strings_TrimPrefix s ⟨#[45]⟩ w).mono fun e w' ⟨he, hw⟩ => ⟨?_, hw.symm⟩
  have h1 : Lib.hasPrefix s.data.toList [45] = false := by
    cases hs : s.data.toList with
    | nil => rfl
    | cons c l =>
      have h := h.out
      rw [hs] at h
      have h' : ¬ c = 45 := by simpa using h
      have h3 : ((45 : UInt8) == c) = false := by simpa using (Ne.symm h')
      simp [Lib.hasPrefix, List.isPrefixOf, h3]
  have h2 : Lib.trimPrefix s.data.toList [45] = s.data.toList := by simp [Lib.trimPrefix, h1]
  rw [he]
  show Ending.returned (.string ⟨(Lib.trimPrefix s.data.toList [45]).toArray⟩) = _
  rw [h2]
/-- What a reader of a decimal with its line's end answers. -/
def DecEnd (R : Sum Int (Int × Nat)) (e : Ending) : Prop := match R with
  | .inl x => e = .returned (.tuple #[.int .i64 0, .int .i64 0, .int .i64 x])
  | .inr (n, k) => e = .returned (.tuple #[.int .i64 n, .int .i64 k, .int .i64 0])
theorem parse_piece (s : ByteArray) (k : Nat) (w : World) (hs : s.size ≤ 9223372036854775807) (v : Int) (q : Bool) (h : Hid (parN (s.data.toList.take k) = v ∧ parB (s.data.toList.take k) = q)) :
    Calls Tryd.prog 64 #[.string (s.extract 0 k)] w fun e w' => e = .returned (.tuple #[.int .i64 v, .bool q]) ∧ w = w' := by
  have e : (s.extract 0 k).data.toList = s.data.toList.take k := by rw [Lib.extract_data]; simp
  have hz : (s.extract 0 k).size ≤ maxLen := by
    have : (s.extract 0 k).size ≤ s.size := by simp; omega
    unfold maxLen; omega
  refine (parse_any (s.extract 0 k) w hz).mono fun e' w' ⟨he, hw⟩ => ⟨?_, hw.symm⟩
  rw [he, e, h.out.1, h.out.2]

theorem take_drop_head (s : ByteArray) (k : Nat) (h : k < s.size) : s.data.toList.drop k = s[k] :: s.data.toList.drop (k + 1) := by
  rw [List.drop_eq_getElem_cons (by simpa using h)]; rfl
theorem par_of {l : List UInt8} {v : Int} (h : numOf l = some v) : parN l = v ∧ parB l = true := par_some h
theorem dig_true {c : UInt8} (h1 : 48 ≤ c.toNat) (h2 : c.toNat ≤ 57) : isDig c = true := decide_eq_true ⟨h1, h2⟩
theorem dig_false {c : UInt8} (h : c.toNat < 48 ∨ 57 < c.toNat) : isDig c = false := decide_eq_false (by omega)
section
variable {lo hi ab : Int}
/-- The steps of the reader at a digit. -/
theorem dec_bad {s : ByteArray} {k : Nat} {R : Sum Int (Int × Nat)} (h : k < s.size) (hd : isDig s[k] = true) (hn : numOf (s.data.toList.take (k + 1)) = none) (hR : decGo lo hi ab (s.data.toList.take k) (s.data.toList.drop k) = R) : R = .inl 5 := by
  rw [← hR, take_drop_head s k h, decGo, if_pos hd, ← take_snoc s k h, hn]
theorem dec_low {s : ByteArray} {k : Nat} {v : Int} {R : Sum Int (Int × Nat)} (h : k < s.size) (hd : isDig s[k] = true) (hn : numOf (s.data.toList.take (k + 1)) = some v) (hv : v < lo) (hR : decGo lo hi ab (s.data.toList.take k) (s.data.toList.drop k) = R) : R = .inl 5 := by
  rw [← hR, take_drop_head s k h, decGo, if_pos hd, ← take_snoc s k h, hn]
  simp only []
  rw [if_pos hv]
theorem dec_high {s : ByteArray} {k : Nat} {v : Int} {R : Sum Int (Int × Nat)} (h : k < s.size) (hd : isDig s[k] = true) (hn : numOf (s.data.toList.take (k + 1)) = some v) (hv : ¬ v < lo) (hv2 : hi < v) (hR : decGo lo hi ab (s.data.toList.take k) (s.data.toList.drop k) = R) : R = .inl ab := by
  rw [← hR, take_drop_head s k h, decGo, if_pos hd, ← take_snoc s k h, hn]
  simp only []
  rw [if_neg hv, if_pos hv2]
theorem dec_next {s : ByteArray} {k : Nat} {v : Int} {R : Sum Int (Int × Nat)} (h : k < s.size) (hd : isDig s[k] = true) (hn : numOf (s.data.toList.take (k + 1)) = some v) (hv : ¬ v < lo) (hv2 : ¬ hi < v) (hR : decGo lo hi ab (s.data.toList.take k) (s.data.toList.drop k) = R) :
    decGo lo hi ab (s.data.toList.take (k + 1)) (s.data.toList.drop (k + 1)) = R := by
  rw [← hR, take_drop_head s k h, decGo, if_pos hd, ← take_snoc s k h, hn]
  simp only []
  rw [if_neg hv, if_neg hv2]
theorem dec_end {s : ByteArray} {k : Nat} {R : Sum Int (Int × Nat)} (h : s.size ≤ k) (hR : decGo lo hi ab (s.data.toList.take k) (s.data.toList.drop k) = R) : R = .inl 4 := by
  rw [← hR, List.drop_of_length_le (by simpa using h), decGo]
theorem dec_none {s : ByteArray} {k : Nat} {R : Sum Int (Int × Nat)} (h : k < s.size) (hd : isDig s[k] = false) (hm : ¬ (s[k] = 45 ∧ s.data.toList.take k = [])) (hn : numOf (s.data.toList.take k) = none) (hR : decGo lo hi ab (s.data.toList.take k) (s.data.toList.drop k) = R) : R = .inl 5 := by
  rw [← hR, take_drop_head s k h, decGo, if_neg (by rw [hd]; decide), if_neg hm, hn]
theorem dec_stop {s : ByteArray} {k : Nat} {v : Int} {R : Sum Int (Int × Nat)} (h : k < s.size) (hd : isDig s[k] = false) (hm : ¬ (s[k] = 45 ∧ s.data.toList.take k = [])) (hn : numOf (s.data.toList.take k) = some v) (hR : decGo lo hi ab (s.data.toList.take k) (s.data.toList.drop k) = R) :
    R = stopF v k (s.data.toList.drop k) := by
  rw [← hR, take_drop_head s k h, decGo, if_neg (by rw [hd]; decide), if_neg hm, hn]
  simp only []
  rw [List.length_take, Nat.min_eq_left (by simp; omega)]
end
/-- What is known of a number that is being read: none yet, or v. -/
def Seen (l : List UInt8) (v : Int) (q : Bool) : Prop := if q then numOf l = some v else (numOf l = none ∧ v = 0)

set_option maxHeartbeats 2000000 in
theorem decimal_loop (s : ByteArray) (lo hi ab : Int) (w : World) (hs : s.size ≤ 140737488355328) (t : ByteArray) (k0 : Nat) (hk0 : k0 ≤ s.size) (htrim : ∀ w, Calls Tryd.prog 63 #[.string s, .string ⟨#[45]⟩] w fun e w' => e = .returned (.string t) ∧ w = w')
    (ht : Hid (t.size + k0 = s.size)) (R : Sum Int (Int × Nat)) (hR : Hid (decGo lo hi ab (s.data.toList.take k0) (s.data.toList.drop k0) = R)) (hn : Hid (numOf (s.data.toList.take k0) = none)) (hm : Hid (∀ k, (h : k < s.size) → k0 ≤ k → ¬ (s[k] = 45 ∧ s.data.toList.take k = []))) :
    Calls Tryd.prog 53 #[.string s, .int .i64 lo, .int .i64 hi, .int .i64 ab] w fun e w' => DecEnd R e ∧ w = w' := by
  have htl : t.size ≤ s.size := by have := ht.out; omega
  go_enter Tryd.func53, Tryd.ntmps53
  go_wp2_with (go_at_call 63; ((with_reducible refine (htrim _).mono ?_); rintro e w' ⟨rfl, rfl⟩))
  go_loop [11, 12, 13] (fun n kn i => ∃ (k : Nat) (v : Int) (q : Bool), i = .int .i64 k ∧ k ≤ s.size ∧ k0 ≤ k ∧ n = .int .i64 v ∧ kn = .bool q ∧ Hid (Seen (s.data.toList.take k) v q) ∧ Hid (decGo lo hi ab (s.data.toList.take k) (s.data.toList.drop k) = R)) (fun _ _ i => s.size - (intOf i).toNat)
  case atStart => exact ⟨k0, 0, false, congrArg (Value.int .i64) (by have := ht.out; omega), hk0, Nat.le_refl _, rfl, rfl, Lib.hid ⟨hn.out, rfl⟩, hR⟩
  case round =>
    clear hR hn ht
    obtain ⟨k, v, q, rfl, hk, hkk, rfl, rfl, hS, hR⟩ := hrel
    clear htl
    by_cases hlt : k < s.size
    · have hmk := Lib.hid (hm.out k hlt hkk)
      by_cases hd : 48 ≤ s[k].toNat ∧ s[k].toNat ≤ 57
      · obtain ⟨d1, d2⟩ := hd
        have hdH := Lib.hid (dig_true d1 d2)
        cases hnx : numOf (s.data.toList.take (k + 1)) with
        | none =>
          have hT := Lib.hid (dec_bad hlt hdH.out hnx hR.out)
          have hp := Lib.hid (par_none hnx)
          clear hnx
          go_wp2_with (go_at_call 64; ((with_reducible refine (parse_piece s (k + 1) _ (by omega) 0 false hp).mono ?_); rintro e w' ⟨rfl, rfl⟩))
          go_ret3
          exact ⟨by rw [hT.out]; rfl, rfl⟩
        | some u =>
          have hnH := Lib.hid hnx
          have hp := Lib.hid (par_some hnx)
          clear hnx
          by_cases hlo : u < lo
          · have hT := Lib.hid (dec_low hlt hdH.out hnH.out hlo hR.out)
            go_wp2_with (go_at_call 64; ((with_reducible refine (parse_piece s (k + 1) _ (by omega) u true hp).mono ?_); rintro e w' ⟨rfl, rfl⟩))
            go_ret3
            exact ⟨by rw [hT.out]; rfl, rfl⟩
          · by_cases hhi : hi < u
            · have hT := Lib.hid (dec_high hlt hdH.out hnH.out hlo hhi hR.out)
              go_wp2_with (go_at_call 64; ((with_reducible refine (parse_piece s (k + 1) _ (by omega) u true hp).mono ?_); rintro e w' ⟨rfl, rfl⟩))
              go_ret3
              exact ⟨by rw [hT.out]; rfl, rfl⟩
            · have hN := Lib.hid (dec_next hlt hdH.out hnH.out hlo hhi hR.out)
              go_wp2_with (go_at_call 64; ((with_reducible refine (parse_piece s (k + 1) _ (by omega) u true hp).mono ?_); rintro e w' ⟨rfl, rfl⟩))
              go_round
              case rel => exact ⟨k + 1, u, true, by go_num, by omega, by omega, rfl, rfl, Lib.hid hnH.out, hN⟩
              case measure => simp [intOf]; omega
      · have hdH := Lib.hid (dig_false (c := s[k]) (by omega))
        cases q with
        | false =>
          have hT := Lib.hid (dec_none hlt hdH.out hmk.out hS.out.1 hR.out)
          rcases (show s[k].toNat < 48 ∨ 57 < s[k].toNat by omega) with d1 | d1
          all_goals
            go_wp2_with fail
            go_ret3
            exact ⟨by rw [hT.out]; rfl, rfl⟩
        | true =>
          have hT := Lib.hid (dec_stop hlt hdH.out hmk.out hS.out hR.out)
          have he : Hid ((s.extract k s.size).data.toList = s.data.toList.drop k) := Lib.hid (by rw [Lib.extract_data, List.take_of_length_le]; simp)
          have hcall : ∀ w, Calls Tryd.prog 52 #[.string (s.extract k s.size)] w fun e w' => e = .returned (.int .i64 (endF (s.data.toList.drop k))) ∧ w = w' := fun w => by
            have := ended_any (s.extract k s.size) w
            rwa [he.out] at this
          rcases endF_cases (s.data.toList.drop k) with hz | hz | hz
          · have hT2 : Hid (R = .inr (v, k + 2)) := Lib.hid (by rw [hT.out]; unfold stopF; rw [if_pos hz])
            rw [hz] at hcall
            clear hz
            rcases (show s[k].toNat < 48 ∨ 57 < s[k].toNat by omega) with d1 | d1
            all_goals
              go_wp2_with (go_at_call 52; ((with_reducible refine (hcall _).mono ?_); rintro e w' ⟨rfl, rfl⟩))
              go_ret3
              exact ⟨by rw [hT2.out]; rfl, rfl⟩
          · have hT2 : Hid (R = .inl 4) := Lib.hid (by rw [hT.out]; unfold stopF; rw [if_neg (by rw [hz]; decide), hz])
            rw [hz] at hcall
            clear hz
            rcases (show s[k].toNat < 48 ∨ 57 < s[k].toNat by omega) with d1 | d1
            all_goals
              go_wp2_with (go_at_call 52; ((with_reducible refine (hcall _).mono ?_); rintro e w' ⟨rfl, rfl⟩))
              go_ret3
              exact ⟨by rw [hT2.out]; rfl, rfl⟩
          · have hT2 : Hid (R = .inl 5) := Lib.hid (by rw [hT.out]; unfold stopF; rw [if_neg (by rw [hz]; decide), hz])
            rw [hz] at hcall
            clear hz
            rcases (show s[k].toNat < 48 ∨ 57 < s[k].toNat by omega) with d1 | d1
            all_goals
              go_wp2_with (go_at_call 52; ((with_reducible refine (hcall _).mono ?_); rintro e w' ⟨rfl, rfl⟩))
              go_ret3
              exact ⟨by rw [hT2.out]; rfl, rfl⟩
    · have hT := Lib.hid (dec_end (by omega) hR.out)
      go_wp2_with fail
      go_ret3
      exact ⟨by rw [hT.out]; rfl, rfl⟩
theorem decimal_any (s : ByteArray) (lo hi ab : Int) (w : World) (hs : s.size ≤ 140737488355328) :
    Calls Tryd.prog 53 #[.string s, .int .i64 lo, .int .i64 hi, .int .i64 ab] w fun e w' => DecEnd (decGo lo hi ab [] s.data.toList) e ∧ w = w' := by
  by_cases hm : s.data.toList.head? = some 45
  · obtain ⟨t, hst⟩ : ∃ t : ByteArray, s.data.toList = 45 :: t.data.toList := by
      cases hl : s.data.toList with
      | nil => rw [hl] at hm; cases hm
      | cons c l =>
        rw [hl] at hm
        obtain rfl : c = 45 := by simpa using hm
        exact ⟨⟨l.toArray⟩, by simp⟩
    have hsz : s.size = t.size + 1 := behind hst
    refine decimal_loop s lo hi ab w hs t 1 (by omega) (fun w => trim_yes s t w (Lib.hid hst)) (Lib.hid (by omega)) _ (Lib.hid ?_) (Lib.hid ?_) (Lib.hid ?_)
    · rw [hst]
      simp only [List.take_succ_cons, List.take_zero, List.drop_succ_cons, List.drop_zero]
      rw [decGo, if_neg (by decide), if_pos ⟨rfl, rfl⟩]
    · rw [hst]; exact numOf_minus_alone
    · intro k h h1 hx
      have : (s.data.toList.take k).length = 0 := by rw [hx.2]; rfl
      rw [List.length_take] at this
      have h2 : s.data.toList.length = s.size := by simp
      omega
  · refine decimal_loop s lo hi ab w hs s 0 (by omega) (fun w => trim_no s w (Lib.hid hm)) (Lib.hid (by omega)) _ (Lib.hid ?_) (Lib.hid ?_) (Lib.hid ?_)
    · simp
    · exact numOf_nil
    · intro k h h1 hx
      have : (s.data.toList.take k).length = 0 := by rw [hx.2]; rfl
      rw [List.length_take] at this
      have h2 : s.data.toList.length = s.size := by simp
      obtain rfl : k = 0 := by omega
      apply hm
      rw [head_at s h, hx.1]

end Go.Proofs.YtogbjhpkbdmllaaDoor
