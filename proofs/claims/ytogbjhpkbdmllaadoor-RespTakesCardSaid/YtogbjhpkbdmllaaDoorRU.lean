/-
  The walk of the reference's reader of a line. A premise: the text is no longer than an int holds.
-/
import Derived.Test.YtogbjhpkbdmllaaDoorRO
namespace Go.Proofs.YtogbjhpkbdmllaaDoor
open Go.RowKit Rp Dec

/-- How the reference's reader of a line ends. -/
def LineEnd (s : ByteArray) (T : Sum Int (List UInt8)) (e : Ending) : Prop := match T with
  | .inl x => e = .returned (.tuple #[.string ⟨#[]⟩, .int .i64 0, .int .i64 x])
  | .inr q => q.length + 2 ≤ s.size ∧ (s.extract 0 q.length).data.toList = q ∧ e = .returned (.tuple #[.string (s.extract 0 q.length), .int .i64 ((q.length : Int) + 2), .int .i64 0])
section
variable {s : ByteArray} {k : Nat}
theorem line_drop (h : k < s.size) : s.data.toList.drop k = s[k] :: s.data.toList.drop (k + 1) := by
  have hl : k < s.data.toList.length := by simpa using h
  rw [List.drop_eq_getElem_cons hl]
  rfl
theorem line_take (h : k < s.size) : s.data.toList.take (k + 1) = s.data.toList.take k ++ [s[k]] := by
  have hl : k < s.data.toList.length := by simpa using h
  rw [List.take_add_one, List.getElem?_eq_getElem hl]
  rfl
theorem line_ten (h : k < s.size) (hc : s[k] = 10) : lineGo (s.data.toList.take k) (s.data.toList.drop k) = .inl 5 := by
  rw [line_drop h, lineGo, if_pos (Or.inr hc), hc]
  have : endF (10 :: s.data.toList.drop (k + 1)) = 5 := by
    cases s.data.toList.drop (k + 1) with
    | nil => rfl
    | cons d t => rw [endF, if_neg (by simp)]
  rw [this]
  rfl
theorem line_cr_end (h : k < s.size) (hc : s[k] = 13) (he : k + 1 = s.size) : lineGo (s.data.toList.take k) (s.data.toList.drop k) = .inl 4 := by
  have hn : s.data.toList.drop (k + 1) = [] := List.drop_eq_nil_of_le (by simp; omega)
  rw [line_drop h, lineGo, if_pos (Or.inl hc), hc, hn]
  rfl
theorem line_cr_no (h : k < s.size) (hc : s[k] = 13) (h' : k + 1 < s.size) (hd : s[k + 1] ≠ 10) : lineGo (s.data.toList.take k) (s.data.toList.drop k) = .inl 5 := by
  rw [line_drop h, lineGo, if_pos (Or.inl hc), hc, line_drop h']
  have : endF (13 :: s[k + 1] :: s.data.toList.drop (k + 1 + 1)) = 5 := by rw [endF, if_neg (fun e => hd e.2)]
  rw [this]
  rfl
theorem line_cr_lf (h : k < s.size) (hc : s[k] = 13) (h' : k + 1 < s.size) (hd : s[k + 1] = 10) : lineGo (s.data.toList.take k) (s.data.toList.drop k) = .inr (s.data.toList.take k) := by
  rw [line_drop h, lineGo, if_pos (Or.inl hc), hc, line_drop h', hd]
  rfl
theorem line_more (h : k < s.size) (h1 : s[k] ≠ 13) (h2 : s[k] ≠ 10) : lineGo (s.data.toList.take k) (s.data.toList.drop k) = lineGo (s.data.toList.take (k + 1)) (s.data.toList.drop (k + 1)) := by
  rw [line_drop h, lineGo, if_neg (fun e => e.elim h1 h2), line_take h]
end
theorem byte_is {c : UInt8} {n : Nat} (h : c.toNat = n) (hn : n < 256) : c = UInt8.ofNat n := by
  apply UInt8.toNat_inj.1
  rw [h]
  simp
  omega

set_option maxRecDepth 100000 in
set_option maxHeartbeats 2000000 in
theorem rline_any (s : ByteArray) (w : World) (hs : s.size < 4294967281) : Calls Tryd.prog 40 #[.string s] w fun e w' => LineEnd s (lineGo [] s.data.toList) e ∧ w = w' := by
  obtain ⟨T, hT⟩ : ∃ T, lineGo [] s.data.toList = T := ⟨_, rfl⟩
  rw [hT]
  have hTH := Lib.hid hT
  clear hT
  go_enter Tryd.func40, Tryd.ntmps40
  go_wp2_with fail
  go_loop [5] (fun i => ∃ k : Nat, i = .int .i64 k ∧ k ≤ s.size ∧ Hid (lineGo (s.data.toList.take k) (s.data.toList.drop k) = T)) (fun i => s.size - (intOf i).toNat)
  case atStart => exact ⟨0, rfl, Nat.zero_le _, hTH⟩
  case round =>
    clear hTH
    obtain ⟨k, rfl, hk, hTH⟩ := hrel
    by_cases hlt : k < s.size
    · by_cases h10 : s[k].toNat = 10
      · have hR : Hid (T = .inl 5) := Lib.hid (by rw [← hTH.out]; exact line_ten hlt (byte_is h10 (by decide)))
        have hq : ((s[k].toNat : Int) == 10) = true := by rw [h10]; rfl
        clear hTH
        go_wp2_with fail
        refine bodyPost_ret (v := .tuple #[.string ⟨#[]⟩, .int .i64 0, .int .i64 5]) (by simp [results, Tryd.results40, go_sem]) rfl ?_
        rw [hR.out]
        exact ⟨rfl, rfl⟩
      · have hq : ((s[k].toNat : Int) == 10) = false := beq_eq_false_iff_ne.2 (by omega)
        by_cases h13 : s[k].toNat = 13
        · have hq2 : ((s[k].toNat : Int) == 13) = true := by rw [h13]; rfl
          by_cases hl : k + 1 < s.size
          · by_cases hd : s[k + 1].toNat = 10
            · have hR : Hid (T = .inr (s.data.toList.take k)) := Lib.hid (by rw [← hTH.out]; exact line_cr_lf hlt (byte_is h13 (by decide)) hl (byte_is hd (by decide)))
              have hq3 : ((s[k + 1].toNat : Int) != 10) = false := by rw [hd]; rfl
              clear hTH
              go_wp2_with fail
              refine bodyPost_ret (v := .tuple #[.string (s.extract 0 k), .int .i64 ((k : Int) + 2), .int .i64 0]) (by simp [results, Tryd.results40, go_sem]) rfl ?_
              rw [hR.out]
              have hlen : (s.data.toList.take k).length = k := by rw [List.length_take]; simp; omega
              refine ⟨?_, rfl⟩
              show _ ∧ _ ∧ _
              rw [hlen]
              exact ⟨by omega, head_data s k, rfl⟩
              all_goals (exfalso; omega)
            · have hR : Hid (T = .inl 5) := Lib.hid (by rw [← hTH.out]; exact line_cr_no hlt (byte_is h13 (by decide)) hl (fun e => hd (by rw [e]; rfl)))
              have hq3 : ((s[k + 1].toNat : Int) != 10) = true := bne_iff_ne.2 (by omega)
              clear hTH
              go_wp2_with fail
              refine bodyPost_ret (v := .tuple #[.string ⟨#[]⟩, .int .i64 0, .int .i64 5]) (by simp [results, Tryd.results40, go_sem]) rfl ?_
              rw [hR.out]
              exact ⟨rfl, rfl⟩
              all_goals (exfalso; omega)
          · have hn : k + 1 = s.size := by omega
            have hR : Hid (lineGo (s.data.toList.take (k + 1)) (s.data.toList.drop (k + 1)) = T) := Lib.hid (by
              rw [← hTH.out, line_cr_end hlt (byte_is h13 (by decide)) hn, List.drop_eq_nil_of_le (by simp; omega)]; rfl)
            clear hTH
            go_wp2_with fail
            go_round
            case rel => exact ⟨k + 1, by go_num, by omega, hR⟩
            case measure => simp [intOf]; omega
        · have hq2 : ((s[k].toNat : Int) == 13) = false := beq_eq_false_iff_ne.2 (by omega)
          have hR : Hid (lineGo (s.data.toList.take (k + 1)) (s.data.toList.drop (k + 1)) = T) := Lib.hid (by
            rw [← hTH.out]; exact (line_more hlt (fun e => h13 (by rw [e]; rfl)) (fun e => h10 (by rw [e]; rfl))).symm)
          clear hTH
          go_wp2_with fail
          go_round
          case rel => exact ⟨k + 1, by go_num, by omega, hR⟩
          case measure => simp [intOf]; omega
    · have hR : Hid (T = .inl 4) := Lib.hid (by
        rw [← hTH.out, List.drop_eq_nil_of_le (by simp; omega)]; rfl)
      clear hTH
      go_wp2_with fail
      refine bodyPost_ret (v := .tuple #[.string ⟨#[]⟩, .int .i64 0, .int .i64 4]) (by simp [results, Tryd.results40, go_sem]) rfl ?_
      rw [hR.out]
      exact ⟨rfl, rfl⟩
end Go.Proofs.YtogbjhpkbdmllaaDoor
