/-
  The walks of the reference's own readers: a mark and its decimal, a line's end. Premises: the text is no longer than 1048576 bytes; the most is at most 1048576.
-/
import Derived.Test.YtjidopgohdlfdaaGreatDoorQD
import Derived.Test.YtjidopgohdlfdaaGreatDoorWalksE
namespace Go.Proofs.YtjidopgohdlfdaaGreatDoor
open Go.RowKit Dec Pq S4

/-- How the reference's reader of a decimal ends. -/
def rfN (R : Sum Int (Nat × Nat)) : Int := match R with | .inl _ => 0 | .inr (n, _) => n
def rfS (R : Sum Int (Nat × Nat)) : Int := match R with | .inl _ => 0 | .inr (_, k) => k
def rfE (R : Sum Int (Nat × Nat)) : Int := match R with | .inl e => e | .inr _ => 0
def FirstEnd (R : Sum Int (Nat × Nat)) (w : World) (e : Ending) (w' : World) : Prop := e = .returned (.tuple #[.int .i64 (rfN R), .int .i64 (rfS R), .int .i64 (rfE R)]) ∧ Below w.heap.size w w'
theorem firstEnd_bad {R : Sum Int (Nat × Nat)} {k : Int} {w w' : World} (h : R = .inl k) (hb : Below w.heap.size w w') : FirstEnd R w (.returned (.tuple #[.int .i64 0, .int .i64 0, .int .i64 k])) w' := by subst h; exact ⟨rfl, hb⟩
theorem pr_head {s : ByteArray} {k : Nat} (h : k + 1 < s.size) : (pr s (k + 1)).head? = some (s[1]'(by omega)) := by
  unfold pr
  have h1 : 1 < s.size := by omega
  rw [str_cons s 1 h1, List.take_succ_cons]
  rfl
theorem ext_at0 (s : ByteArray) (i : Nat) (h : i < s.size) {h' : 0 < (s.extract i s.size).size} : (s.extract i s.size)[(0 : Nat)]'h' = s[i] := by simp [ByteArray.getElem_extract]
theorem ext_at1 (s : ByteArray) (i : Nat) (h : i + 1 < s.size) {h' : 1 < (s.extract i s.size).size} : (s.extract i s.size)[(1 : Nat)]'h' = s[i + 1] := by simp [ByteArray.getElem_extract]
theorem rparse_as (t : ByteArray) (w : World) (ht : t.size ≤ maxLen) (l : List UInt8) (a : Int) (b : Bool) (hl : t.data.toList = l) (h : Hid (parN l = a ∧ parB l = b)) :
    Calls Tryz.prog 78 #[.string t] w fun e w' => e = .returned (.tuple #[.int .i64 a, .bool b]) ∧ Below w.heap.size w w' :=
  (rparse_any t w ht).mono fun e w' ⟨h1, h2⟩ => ⟨by rw [h1, hl, h.out.1, h.out.2], h2⟩

set_option maxRecDepth 100000 in
set_option maxHeartbeats 4000000 in
theorem rfirst_any (s : ByteArray) (mark : UInt8) (most ab : Int) (w : World) (hs : s.size ≤ 1000000000) (hm1 : most ≤ 1048576) :
    Calls Tryz.prog 62 #[.string s, .int .u8 (mark.toNat : Int), .int .i64 most, .int .i64 ab] w (FirstEnd (firstF mark most ab s.data.toList) w) := by
  obtain ⟨R, hR0⟩ : ∃ R, firstF mark most ab s.data.toList = R := ⟨_, rfl⟩
  rw [hR0]
  by_cases h0 : s.data.toList = []
  · have he : s.toList = [] := by rw [Lib.toList_data]; exact h0
    have hR : Hid (R = .inl (-1)) := Lib.hid (by rw [← hR0, h0]; rfl)
    clear hR0 h0
    go_enter Tryz.func62, Tryz.ntmps62
    go_wp2_with fail
    refine bodyPost_ret (v := .tuple #[.int .i64 0, .int .i64 0, .int .i64 (-1)]) (by simp [results, Tryz.results62, go_sem]) rfl ?_
    exact firstEnd_bad hR.out (Below.refl _ _)
  have he : s.toList.isEmpty = false := by rw [Lib.toList_data]; simpa using h0
  have hpos : 0 < s.size := by
    rcases Nat.eq_zero_or_pos s.size with h | h
    · exact absurd (List.eq_nil_of_length_eq_zero (by simpa using h)) h0
    · exact h
  have hcons := str_cons s 0 hpos
  rw [List.drop_zero] at hcons
  by_cases hc : s[(0 : Nat)] = mark
  · have hR1 : Hid (firstGo most ab (pr s 0) (s.data.toList.drop 1) = R) := Lib.hid (by
      rw [← hR0]; conv => rhs; rw [hcons]
      rw [firstF, if_neg (by simpa using hc)]; rfl)
    have hq : ((s[(0 : Nat)].toNat : Int) != (mark.toNat : Int)) = false := by rw [hc]; simp
    clear hR0 hcons h0 hc
    go_enter Tryz.func62, Tryz.ntmps62
    go_wp2_with fail
    go_loopw [11] (fun i wr => ∃ k : Nat, i = .int .i64 ((k : Int) + 1) ∧ k + 1 ≤ s.size ∧ Hid (Pre most (pr s k)) ∧ Hid (firstGo most ab (pr s k) (s.data.toList.drop (k + 1)) = R) ∧ Below w.heap.size w wr) (fun i _ => s.size - (intOf i).toNat)
    case atStart => exact ⟨0, rfl, by omega, Lib.hid (Or.inl rfl), hR1, Below.refl _ _⟩
    case round =>
      clear hR1
      obtain ⟨k, rfl, hk, hP, hR, hbw⟩ := hrel
      by_cases hlt : k + 1 < s.size
      · by_cases hdg : dg s[k + 1] = true
        · have hd2 : 48 ≤ s[k + 1].toNat ∧ s[k + 1].toNat ≤ 57 := of_decide_eq_true hdg
          have hcons := str_cons s (k + 1) hlt
          have hnx := pr_next hlt
          have hln : (s.extract 1 (k + 1 + 1)).size ≤ maxLen := by unfold maxLen; simp; omega
          have hRd := fun w a b h => rparse_as (s.extract 1 (k + 1 + 1)) w hln (pr s (k + 1)) a b (pr_data s (k + 1)) h
          cases hn : numOf (pr s (k + 1)) with
          | none =>
            obtain ⟨h48, hgo⟩ := fg_none (over := ab) (t := s.data.toList.drop (k + 1 + 1)) hm1 hP.out hdg (by rw [← hnx]; exact hn)
            have hRR : Hid (R = .inl 5) := Lib.hid (by rw [← hR.out, hcons]; exact hgo)
            have hs1 : ((s[(1 : Nat)].toNat : Int) == 48) = true := by
              rw [← hnx, pr_head hlt] at h48
              rw [Option.some.inj h48]; rfl
            have hE := Lib.hid (fun w => hRd w 0 false (Lib.hid (par_none hn)))
            clear hcons hnx hRd hn hR hP hdg hln h48 hgo
            go_wp2_with (go_at_call 78; ((with_reducible refine (hE.out _).mono ?_); rintro e w1 ⟨rfl, hb1⟩))
            all_goals first
              | (exfalso; omega)
              | (refine bodyPost_ret (v := .tuple #[.int .i64 (0), .int .i64 (0), .int .i64 (5)]) (by simp [results, Tryz.results62, go_sem]) rfl ?_; exact firstEnd_bad hRR.out (onB hbw hb1))
          | some n =>
            have hn0 : 0 ≤ n := pre_next hm1 hP.out hdg (by rw [← hnx]; exact hn)
            have hpar := nat_val s (k + 1) hn
            have hE := Lib.hid (fun w => hRd w n true (Lib.hid hpar))
            by_cases hov : most < n
            · have hRR : Hid (R = .inl ab) := Lib.hid (by rw [← hR.out, hcons]; exact firstGo_big hdg (by rw [← hnx]; exact hn) hov)
              clear hcons hnx hRd hn hR hP hdg hln hpar
              go_wp2_with (go_at_call 78; ((with_reducible refine (hE.out _).mono ?_); rintro e w1 ⟨rfl, hb1⟩))
              all_goals first
                | (exfalso; omega)
                | (refine bodyPost_ret (v := .tuple #[.int .i64 0, .int .i64 0, .int .i64 ab]) (by simp [results, Tryz.results62, go_sem]) rfl ?_; exact firstEnd_bad hRR.out (onB hbw hb1))
            · have hRR : Hid (firstGo most ab (pr s (k + 1)) (s.data.toList.drop (k + 1 + 1)) = R) := Lib.hid (by rw [← hR.out, hcons, hnx]; exact (firstGo_dig hdg (by rw [← hnx]; exact hn) (by omega)).symm)
              have hP2 : Hid (Pre most (pr s (k + 1))) := Lib.hid (Or.inr ⟨n, hn, hn0, by omega⟩)
              clear hcons hnx hRd hn hR hP hdg hln hpar
              go_wp2_with (go_at_call 78; ((with_reducible refine (hE.out _).mono ?_); rintro e w1 ⟨rfl, hb1⟩))
              all_goals first
                | (exfalso; omega)
                | (go_roundw
                   case rel => exact ⟨k + 1, by go_num, by omega, hP2, hRR, onB hbw hb1⟩
                   case measure => simp [intOf]; omega)
        · have hdg : dg s[k + 1] = false := by simpa using hdg
          have hd2 : s[k + 1].toNat < 48 ∨ 57 < s[k + 1].toNat := by have := of_decide_eq_false hdg; omega
          have hND : NoDig (s.data.toList.drop (k + 1)) := nodig_of (fun h => hdg)
          have hne := drop_ne hlt
          have hE := Lib.hid (fun w => rparse_as (s.extract 1 (k + 1)) w (by unfold maxLen; simp; omega) (pr s k) (parN (pr s k)) (parB (pr s k)) (pr_data s k) (Lib.hid ⟨rfl, rfl⟩))
          have hne2 : (s.extract (k + 1) s.size).toList.isEmpty = false := by
            rw [Lib.toList_data, sl_data]
            simp
            omega
          by_cases hk0 : k = 0
          · subst hk0
            have hE := Lib.hid (fun w => rparse_as ByteArray.empty w (by decide) (pr s 0) (parN (pr s 0)) (parB (pr s 0)) rfl (Lib.hid ⟨rfl, rfl⟩))
            have hRR : Hid (R = .inl 5) := Lib.hid (by rw [← hR.out]; exact fa_none hND hne)
            have hd3 : s[1].toNat < 48 ∨ 57 < s[1].toNat := hd2
            clear hND hne hR hP hdg hd2
            go_wp2_with (go_at_call 78; ((with_reducible refine (hE.out _).mono ?_); rintro e w1 ⟨rfl, hb1⟩))
            all_goals first
              | (exfalso; omega)
              | (refine bodyPost_ret (v := .tuple #[.int .i64 (0), .int .i64 (0), .int .i64 (5)]) (by simp [results, Tryz.results62, go_sem]) rfl ?_; exact firstEnd_bad hRR.out (onB hbw hb1))
          · have hk1 : 0 < k := Nat.pos_of_ne_zero hk0
            have hpn : pr s k ≠ [] := pr_ne hk hk1
            have hcons := str_cons s (k + 1) hlt
            have hPk := hP.out.resolve_left hpn
            have hz0 : 0 < (s.extract (k + 1) s.size).size := by simp; omega
            have hk2 : ((k : Int) + 1 == 1) = false := beq_eq_false_iff_ne.2 (by omega)
            by_cases h13 : s[k + 1] = 13
            · have hq1 : ((((s.extract (k + 1) s.size)[(0 : Nat)]'hz0).toNat : Int) != 13) = false := by rw [ext_at0 s (k + 1) hlt, h13]; rfl
              by_cases hl2 : k + 2 < s.size
              · have hcons2 := str_cons s (k + 2) hl2
                have hz1 : 1 < (s.extract (k + 1) s.size).size := by simp; omega
                have hsz1 : (((s.size - (k + 1) : Nat) : Int) == 1) = false := beq_eq_false_iff_ne.2 (by omega)
                by_cases h10 : s[k + 2] = 10
                · have hq2 : ((((s.extract (k + 1) s.size)[(1 : Nat)]'hz1).toNat : Int) != 10) = false := by rw [ext_at1 s (k + 1) hl2, h10]; rfl
                  obtain ⟨m, hm, hm0, hm1'⟩ := hPk
                  have hz : endsF (s.data.toList.drop (k + 1)) = 0 := by rw [hcons, hcons2, h13, h10]; rfl
                  have hRR : Hid (R = .inr (m.toNat, k + 3)) := Lib.hid (by rw [← hR.out]; have := fa_ok (over := ab) (most := most) hND hpn hm hz; rw [pr_len hk] at this; exact this)
                  have hpm := (nat_val s k hm).1
                  rw [hpm] at hE
                  clear hND hne hR hP hdg hcons hcons2 hz hm hpm h13 h10 hpn
                  go_wp2_with (go_at_call 78; ((with_reducible refine (hE.out _).mono ?_); rintro e w1 ⟨rfl, hb1⟩))
                  all_goals first
                    | (exfalso; omega)
                    | (refine bodyPost_ret (v := .tuple #[.int .i64 m, .int .i64 ((k : Int) + 1 + 2), .int .i64 0]) (by simp [results, Tryz.results62, go_sem]) rfl ?_
                       rw [hRR.out]
                       refine ⟨?_, onB hbw hb1⟩
                       simp only [rfN, rfS, rfE]
                       rw [show ((m.toNat : Nat) : Int) = m by omega, show ((k + 3 : Nat) : Int) = (k : Int) + 1 + 2 by omega])
                · have hq2 : ((((s.extract (k + 1) s.size)[(1 : Nat)]'hz1).toNat : Int) != 10) = true := by
                    rw [ext_at1 s (k + 1) hl2]
                    exact bne_iff_ne.2 fun e => h10 (UInt8.toNat_inj.1 (show s[k + 1 + 1].toNat = (10 : UInt8).toNat by have : (10 : UInt8).toNat = 10 := rfl; omega))
                  have hz : endsF (s.data.toList.drop (k + 1)) = 5 := by rw [hcons, hcons2, h13]; simp [endsF, lfE, h10]
                  have hRR : Hid (R = .inl 5) := Lib.hid (by rw [← hR.out]; exact fa_bad hND hz)
                  clear hND hne hR hP hdg hcons hcons2 hz h13 h10 hpn hPk
                  go_wp2_with (go_at_call 78; ((with_reducible refine (hE.out _).mono ?_); rintro e w1 ⟨rfl, hb1⟩))
                  all_goals first
                    | (exfalso; omega)
                    | (refine bodyPost_ret (v := .tuple #[.int .i64 0, .int .i64 0, .int .i64 5]) (by simp [results, Tryz.results62, go_sem]) rfl ?_; exact firstEnd_bad hRR.out (onB hbw hb1))
              · have hsz1 : (((s.size - (k + 1) : Nat) : Int) == 1) = true := beq_iff_eq.2 (by omega)
                have hz : endsF (s.data.toList.drop (k + 1)) = -1 := by rw [hcons, drop_end (by omega), h13]; rfl
                have hRR : Hid (R = .inl (-1)) := Lib.hid (by rw [← hR.out]; exact fa_more hND (Or.inl hpn) hz)
                clear hND hne hR hP hdg hcons hz h13 hpn hPk
                go_wp2_with (go_at_call 78; ((with_reducible refine (hE.out _).mono ?_); rintro e w1 ⟨rfl, hb1⟩))
                all_goals first
                  | (exfalso; omega)
                  | (refine bodyPost_ret (v := .tuple #[.int .i64 0, .int .i64 0, .int .i64 (-1)]) (by simp [results, Tryz.results62, go_sem]) rfl ?_; exact firstEnd_bad hRR.out (onB hbw hb1))
            · have hq1 : ((((s.extract (k + 1) s.size)[(0 : Nat)]'hz0).toNat : Int) != 13) = true := by
                rw [ext_at0 s (k + 1) hlt]
                exact bne_iff_ne.2 fun e => h13 (UInt8.toNat_inj.1 (by have : (13 : UInt8).toNat = 13 := rfl; omega))
              have hz : endsF (s.data.toList.drop (k + 1)) = 5 := by rw [hcons]; simp [endsF, h13]
              have hRR : Hid (R = .inl 5) := Lib.hid (by rw [← hR.out]; exact fa_bad hND hz)
              clear hND hne hR hP hdg hcons hz h13 hpn hPk
              go_wp2_with (go_at_call 78; ((with_reducible refine (hE.out _).mono ?_); rintro e w1 ⟨rfl, hb1⟩))
              all_goals first
                | (exfalso; omega)
                | (refine bodyPost_ret (v := .tuple #[.int .i64 0, .int .i64 0, .int .i64 5]) (by simp [results, Tryz.results62, go_sem]) rfl ?_; exact firstEnd_bad hRR.out (onB hbw hb1))
      · have hend : k + 1 = s.size := by omega
        have hRR : Hid (R = .inl (-1)) := Lib.hid (by
          rw [← hR.out]
          exact fa_more (nodig_of (fun h => absurd h (by omega))) (Or.inr (drop_end (by omega))) (by rw [drop_end (by omega)]; rfl))
        have hE := Lib.hid (fun w => rparse_as (s.extract 1 (k + 1)) w (by unfold maxLen; simp; omega) (pr s k) (parN (pr s k)) (parB (pr s k)) (pr_data s k) (Lib.hid ⟨rfl, rfl⟩))
        clear hR hP
        have hem : (s.extract (k + 1) s.size).toList = [] := by rw [Lib.toList_data, sl_data]; simp; omega
        by_cases hk0 : k = 0
        · subst hk0
          have hem1 : (s.extract 1 s.size).toList = [] := hem
          clear hend
          have hE := Lib.hid (fun w => rparse_as ByteArray.empty w (by decide) (pr s 0) (parN (pr s 0)) (parB (pr s 0)) rfl (Lib.hid ⟨rfl, rfl⟩))
          go_wp2_with (go_at_call 78; ((with_reducible refine (hE.out _).mono ?_); rintro e w1 ⟨rfl, hb1⟩))
          all_goals first
            | (exfalso; omega)
            | (refine bodyPost_ret (v := .tuple #[.int .i64 0, .int .i64 0, .int .i64 (-1)]) (by simp [results, Tryz.results62, go_sem]) rfl ?_; exact firstEnd_bad hRR.out (onB hbw hb1))
        · clear hend
          go_wp2_with (go_at_call 78; ((with_reducible refine (hE.out _).mono ?_); rintro e w1 ⟨rfl, hb1⟩))
          all_goals first
            | (exfalso; omega)
            | (refine bodyPost_ret (v := .tuple #[.int .i64 0, .int .i64 0, .int .i64 (-1)]) (by simp [results, Tryz.results62, go_sem]) rfl ?_; exact firstEnd_bad hRR.out (onB hbw hb1))
  · have hR : Hid (R = .inl 5) := Lib.hid (by rw [← hR0, hcons, firstF, if_pos hc])
    have hq : ((s[(0 : Nat)].toNat : Int) != (mark.toNat : Int)) = true := bne_iff_ne.2 fun e => hc (UInt8.toNat_inj.1 (by omega))
    clear hR0 hcons h0 hc
    go_enter Tryz.func62, Tryz.ntmps62
    go_wp2_with fail
    refine bodyPost_ret (v := .tuple #[.int .i64 0, .int .i64 0, .int .i64 5]) (by simp [results, Tryz.results62, go_sem]) rfl ?_
    exact firstEnd_bad hR.out (Below.refl _ _)
end Go.Proofs.YtjidopgohdlfdaaGreatDoor
