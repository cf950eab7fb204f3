/-
  The walks of the reader of a hex byte and of a turn. A premise: the library's variable ErrSyntax holds an error, or none.
-/
import Derived.Test.YtjidopgohdlfdaaGreatDoorLB
import Derived.Deep.Cut
namespace Go.Proofs.YtjidopgohdlfdaaGreatDoor.S4
open Go.RowKit Ln

set_option maxHeartbeats 1000000 in
theorem parse_yes (t : ByteArray) (hne : t.size = 2) (n : Nat) (hn : pu 0 t.data.toList = some n) (w : World) :
    Calls Tryz.prog 136 #[.string t, .int .i64 16, .int .i64 8] w fun e w' => e = .returned (.tuple #[.int .u64 n, .nilIface]) ∧ Below w.heap.size w w' := by
  have hI := iparse_any t hne
  rw [hn] at hI
  simp only [PuEnd] at hI
  have hIH := Lib.hid hI
  clear hI hn hne
  go_enter Tryz.func136, Tryz.ntmps136
  go_wp2_with (go_at_call 137; (with_reducible refine (hIH.out _).mono ?_); rintro e w' ⟨rfl, hb⟩)
  go_ret2
  exact ⟨rfl, hb⟩
set_option maxHeartbeats 1000000 in
theorem parse_no (t : ByteArray) (hne : t.size = 2) (hn : pu 0 t.data.toList = none) (w : World) (hE : ErrAt w) :
    Calls Tryz.prog 136 #[.string t, .int .i64 16, .int .i64 8] w fun e w' => (∃ N : Nat, e = .returned (.tuple #[.int .u64 0, .iface 186 (.pointer (some ⟨N, 0, none⟩))])) ∧ Below w.heap.size w w' := by
  have hI := iparse_any t hne
  rw [hn] at hI
  simp only [PuEnd] at hI
  have hIH := Lib.hid hI
  have hEH := Lib.hid hE
  have hz : t.size ≤ 281474976710656 := by omega
  clear hI hn hne hE
  go_enter Tryz.func136, Tryz.ntmps136
  go_wp2_with (go_at_call 137; (with_reducible refine (hIH.out _).mono ?_); rintro e w1 ⟨rfl, hb⟩)
  obtain ⟨ev, h1, h2⟩ := hEH.out.on hb
  have h1H := Lib.hid h1
  have h2H := Lib.hid h2
  clear h1 h2
  go_wp2_with (go_at_call 138; (with_reducible refine (Tryz.strconv_toError_syntax _ t 16 8 ev _ hz h1H.out h2H.out).mono ?_); rintro e w2 ⟨N, rfl, _, _, hb2⟩)
  go_ret2
  exact ⟨⟨N, rfl⟩, hb.trans (hb2.mono hb.size)⟩

theorem two_bytes (s : ByteArray) (h : 2 ≤ s.size) : ∃ a b t, s.data.toList = a :: b :: t ∧ (s.extract 0 2).data.toList = [a, b] ∧ (s.extract 0 2).size = 2 := by
  have hl : s.data.toList.length = s.size := by simp
  match hs : s.data.toList, hl with
  | [], hl => simp at hl; omega
  | [a], hl => simp at hl; omega
  | a :: b :: t, _ =>
    refine ⟨a, b, t, rfl, ?_, by simp; omega⟩
    simp [hs]
theorem pu_two (a b : UInt8) : pu 0 [a, b] = if hexd a < 16 ∧ hexd b < 16 then some (16 * hexd a + hexd b) else none := by
  rw [pu]
  by_cases ha : hexd a < 16
  · rw [if_pos ha, pu]
    by_cases hb : hexd b < 16
    · rw [if_pos hb, if_pos ⟨ha, hb⟩, pu]; congr 1; omega
    · rw [if_neg hb, if_neg (fun h => hb h.2)]
  · rw [if_neg ha, if_neg (fun h => ha h.1)]
def hexV (l : List UInt8) : UInt8 := (hex2 l).getD 0
def hexB (l : List UInt8) : Bool := (hex2 l).isSome

set_option maxHeartbeats 1000000 in
theorem hex_any (s : ByteArray) (w : World) (hs : s.size ≤ maxLen) (hE : ErrAt w) :
    Calls Tryz.prog 135 #[.string s] w fun e w' => e = .returned (.tuple #[.int .u8 ((hexV s.data.toList).toNat : Int), .bool (hexB s.data.toList)]) ∧ Below w.heap.size w w' := by
  unfold maxLen at hs
  by_cases h2 : 2 ≤ s.size
  · obtain ⟨a, b, t, e1, e2, e3⟩ := two_bytes s h2
    have ht := pu_two a b
    by_cases hab : hexd a < 16 ∧ hexd b < 16
    · have hR : Hid (hexV s.data.toList = UInt8.ofNat (16 * hexd a + hexd b) ∧ hexB s.data.toList = true) := Lib.hid (by unfold hexV hexB; rw [e1, hex2, if_pos hab]; exact ⟨rfl, rfl⟩)
      rw [if_pos hab] at ht
      obtain ⟨n, hn⟩ : ∃ n, n = 16 * hexd a + hexd b := ⟨_, rfl⟩
      rw [← hn] at ht hR
      have hlt : n ≤ 255 := by omega
      have hP := Lib.hid (parse_yes (s.extract 0 2) e3 n (by rw [e2, ht]))
      have hv : Hid (((UInt8.ofNat n).toNat : Int) = (n : Int)) := Lib.hid (by simp; omega)
      clear ht hn e1 e2 e3 hab
      go_enter Tryz.func135, Tryz.ntmps135
      go_wp2_with (go_at_call 136; (with_reducible refine (hP.out _).mono ?_); rintro e w1 ⟨rfl, hb⟩)
      go_quiet (fail)
      go_wp2
      go_ret2
      refine ⟨?_, below_drewN hb _⟩
      rw [hR.out.1, hR.out.2, hv.out]
      rfl
    · have hR : Hid (hexV s.data.toList = 0 ∧ hexB s.data.toList = false) := Lib.hid (by unfold hexV hexB; rw [e1, hex2, if_neg hab]; exact ⟨rfl, rfl⟩)
      rw [if_neg hab] at ht
      have hP := Lib.hid (parse_no (s.extract 0 2) e3 (by rw [e2, ht]))
      have hEH := Lib.hid hE
      clear ht e1 e2 e3 hab hE
      go_enter Tryz.func135, Tryz.ntmps135
      go_wp2_with (go_at_call 136; (with_reducible refine (hP.out _ hEH.out).mono ?_); rintro e w1 ⟨⟨N, rfl⟩, hb⟩)
      go_quiet (fail)
      go_wp2
      go_ret2
      refine ⟨?_, below_drewN hb _⟩
      rw [hR.out.1, hR.out.2]
      rfl
  · have hR : Hid (hexV s.data.toList = 0 ∧ hexB s.data.toList = false) := Lib.hid (by
      have hl : s.data.toList.length = s.size := by simp
      unfold hexV hexB
      match hs : s.data.toList, hl with
      | [], _ => exact ⟨rfl, rfl⟩
      | [a], _ => exact ⟨rfl, rfl⟩
      | a :: b :: t, hl => simp at hl; omega)
    go_enter Tryz.func135, Tryz.ntmps135
    go_wp2
    go_ret2
    refine ⟨?_, Below.refl _ _⟩
    rw [hR.out.1, hR.out.2]
    rfl

theorem byte_of {c : UInt8} {n : Nat} (hn : n < 256) (h : (c.toNat : Int) = n) : c = UInt8.ofNat n := by
  apply UInt8.toNat.inj
  simp
  omega
theorem ret_bn {a a' b b' : Int} (h1 : a' = a) (h2 : b' = b) : Ending.returned (.tuple #[.int .u8 a, .int .i64 b]) = .returned (.tuple #[.int .u8 a', .int .i64 b']) := by rw [h1, h2]
theorem str_cons (s : ByteArray) (k : Nat) (h : k < s.size) : s.data.toList.drop k = s[k] :: s.data.toList.drop (k + 1) :=
  List.drop_eq_getElem_cons (by simpa using h)
theorem ext_data (s : ByteArray) (k : Nat) : (s.extract k s.size).data.toList = s.data.toList.drop k := by
  rw [Lib.extract_to_end]
/-- What is meant by a turn, in Go's own numbers. -/
def MeantEnd (r : UInt8 × Nat) (w : World) (e : Ending) (w' : World) : Prop := e = .returned (.tuple #[.int .u8 (r.1.toNat : Int), .int .i64 (r.2 : Int)]) ∧ Below w.heap.size w w'
set_option maxHeartbeats 2000000 in
theorem turn_any (s : ByteArray) (w : World) (hs : s.size ≤ maxLen) (h2 : 2 ≤ s.size) (hE : ErrAt w) (c : UInt8) (t : List UInt8) (hc : s.data.toList.drop 1 = c :: t) :
    Calls Tryz.prog 131 #[.string s] w (MeantEnd (turnF c t) w) := by
  have hH := hex_any (s.extract 2 s.size) w (by unfold maxLen at hs ⊢; simp; omega) hE
  have e1 : s[(1 : Nat)] = c ∧ s.data.toList.drop 2 = t := by
    rw [str_cons s 1 (by omega)] at hc
    exact ⟨by injection hc, by injection hc⟩
  rw [ext_data, e1.2] at hH
  have e1H := Lib.hid e1.1
  unfold maxLen at hs
  clear hc hE
  by_cases hx : c = 120
  · subst hx
    have hq : (s[(1 : Nat)].toNat : Int) = 120 := by rw [e1.1]; rfl
    have hq2 : ((s[(1 : Nat)].toNat : Int) == 120) = true := by rw [hq]; rfl
    clear e1
    cases hb : hex2 t with
    | some b =>
      have h1 : hexV t = b ∧ hexB t = true := by unfold hexV hexB; rw [hb]; exact ⟨rfl, rfl⟩
      have hR : Hid (turnF 120 t = (b, 4)) := Lib.hid (by unfold turnF; rw [if_pos rfl, hb])
      rw [h1.1, h1.2] at hH
      have hHH := Lib.hid hH
      clear hH h1 hb hq
      go_enter Tryz.func131, Tryz.ntmps131
      go_wp2_with (go_at_call 135; (with_reducible refine hHH.out.mono ?_); rintro e w1 ⟨rfl, hb⟩)
      go_ret2
      exact ⟨by rw [hR.out]; rfl, hb⟩
    | none =>
      have h1 : hexV t = 0 ∧ hexB t = false := by unfold hexV hexB; rw [hb]; exact ⟨rfl, rfl⟩
      have hR : Hid (turnF 120 t = (120, 2)) := Lib.hid (by unfold turnF; rw [if_pos rfl, hb])
      rw [h1.1, h1.2] at hH
      have hHH := Lib.hid hH
      clear hH h1 hb
      have n1 : ((s[(1 : Nat)].toNat : Int) == 110) = false := by rw [hq]; rfl
      have n2 : ((s[(1 : Nat)].toNat : Int) == 114) = false := by rw [hq]; rfl
      have n3 : ((s[(1 : Nat)].toNat : Int) == 116) = false := by rw [hq]; rfl
      have n4 : ((s[(1 : Nat)].toNat : Int) == 98) = false := by rw [hq]; rfl
      have n5 : ((s[(1 : Nat)].toNat : Int) == 97) = false := by rw [hq]; rfl
      have hqH := Lib.hid hq
      clear hq
      go_enter Tryz.func131, Tryz.ntmps131
      go_wp2_with (go_at_call 135; (with_reducible refine hHH.out.mono ?_); rintro e w1 ⟨rfl, hb⟩)
      go_ret2
      exact ⟨by rw [hR.out]; exact ret_bn (by rw [hqH.out]; rfl) rfl, hb⟩
  · have hR : Hid (turnF c t = (turned c, 2)) := Lib.hid (by unfold turnF; rw [if_neg hx])
    have hq2 : ((s[(1 : Nat)].toNat : Int) == 120) = false := by
      rw [e1.1]
      exact beq_eq_false_iff_ne.2 (fun h => hx (byte_of (n := 120) (by decide) h))
    clear e1 hH hx
    go_enter Tryz.func131, Tryz.ntmps131
    go_wp2
    all_goals
      go_ret2
      refine ⟨?_, Below.refl _ _⟩
      rw [hR.out]
    · have h : ((s[(1 : Nat)].toNat : Int) == 110) = true := by assumption
      rw [e1H.out, beq_iff_eq] at h
      rw [byte_of (n := 110) (by decide) h]; rfl
    · have h : ((s[(1 : Nat)].toNat : Int) == 114) = true := by assumption
      rw [e1H.out, beq_iff_eq] at h
      rw [byte_of (n := 114) (by decide) h]; rfl
    · have h : ((s[(1 : Nat)].toNat : Int) == 116) = true := by assumption
      rw [e1H.out, beq_iff_eq] at h
      rw [byte_of (n := 116) (by decide) h]; rfl
    · have h : ((s[(1 : Nat)].toNat : Int) == 98) = true := by assumption
      rw [e1H.out, beq_iff_eq] at h
      rw [byte_of (n := 98) (by decide) h]; rfl
    · have h : ((s[(1 : Nat)].toNat : Int) == 97) = true := by assumption
      rw [e1H.out, beq_iff_eq] at h
      rw [byte_of (n := 97) (by decide) h]; rfl
    · have h1 : ((s[(1 : Nat)].toNat : Int) == 110) = false := by assumption
      have h2 : ((s[(1 : Nat)].toNat : Int) == 114) = false := by assumption
      have h3 : ((s[(1 : Nat)].toNat : Int) == 116) = false := by assumption
      have h4 : ((s[(1 : Nat)].toNat : Int) == 98) = false := by assumption
      have h5 : ((s[(1 : Nat)].toNat : Int) == 97) = false := by assumption
      rw [e1H.out] at h1 h2 h3 h4 h5 ⊢
      rw [beq_eq_false_iff_ne] at h1 h2 h3 h4 h5
      refine ret_bn ?_ rfl
      unfold turned
      rw [if_neg (fun e => h1 (by rw [e]; rfl)), if_neg (fun e => h2 (by rw [e]; rfl)), if_neg (fun e => h3 (by rw [e]; rfl)), if_neg (fun e => h4 (by rw [e]; rfl)), if_neg (fun e => h5 (by rw [e]; rfl))]

set_option maxHeartbeats 2000000 in
theorem meant_any (q : UInt8) (s : ByteArray) (w : World) (hs : s.size ≤ maxLen) (hE : ErrAt w) (c : UInt8) (t : List UInt8) (hc : s.data.toList = c :: t) (hq : quoteC q = true) :
    Calls Tryz.prog 128 #[.int .u8 (q.toNat : Int), .string s] w (MeantEnd (meantF q c t) w) := by
  have hl : s.data.toList.length = s.size := by simp
  have h1 : 1 ≤ s.size := by rw [hc] at hl; simp at hl; omega
  have e0 : s[(0 : Nat)] = c := by
    have := str_cons s 0 (by omega)
    rw [List.drop_zero, hc] at this
    injection this with a _
    exact a.symm
  have e0H := Lib.hid e0
  cases t with
  | nil =>
    have hz : s.size = 1 := by rw [hc] at hl; simp at hl; omega
    have hzi : ((s.size : Int) == 1) = true := by rw [hz]; rfl
    have hR : Hid (meantF q c [] = (c, 1)) := Lib.hid rfl
    clear hc hl hz e0 hE
    go_enter Tryz.func128, Tryz.ntmps128
    go_wp2
    all_goals
      go_ret2
      refine ⟨?_, Below.refl _ _⟩
      rw [hR.out]
    · have h : (s[(0 : Nat)].toNat : Int) = 92 := by assumption
      rw [e0H.out] at h
      exact ret_bn h rfl
    · exact ret_bn (by rw [e0H.out]) rfl
  | cons d t =>
    have hz : s.size = t.length + 2 := by rw [hc] at hl; simp at hl; omega
    have hzi : ((s.size : Int) == 1) = false := beq_eq_false_iff_ne.2 (by omega)
    have h2 : 2 ≤ s.size := by omega
    have hd1 : s.data.toList.drop 1 = d :: t := by rw [hc]; rfl
    have e1 : s[(1 : Nat)] = d := by
      have := str_cons s 1 (by omega)
      rw [hd1] at this
      injection this with a _
      exact a.symm
    have e1H := Lib.hid e1
    have hT := Lib.hid (turn_any s w hs h2 hE d t hd1)
    clear hl hz hc hd1 hE
    unfold maxLen at hs
    by_cases h92 : c = 92
    · subst h92
      have hb : ((s[(0 : Nat)].toNat : Int) != 92) = false := by rw [e0]; rfl
      clear e0
      by_cases hq34 : q = 34
      · have hk : ((q.toNat : Int) == 34) = true := by rw [hq34]; rfl
        have hR : Hid (meantF q 92 (d :: t) = turnF d t) := Lib.hid (by unfold meantF; simp only []; rw [if_neg (by decide), if_pos hq34])
        clear hq34 hq e1
        go_enter Tryz.func128, Tryz.ntmps128
        go_wp2_with (go_at_call 131; (with_reducible refine hT.out.mono ?_); rintro e w1 ⟨rfl, hb⟩)
        go_ret2
        rw [hR.out]
        exact ⟨rfl, hb⟩
      · have hk : ((q.toNat : Int) == 34) = false := beq_eq_false_iff_ne.2 (fun h => hq34 (byte_of (n := 34) (by decide) h))
        have hq39 : q = 39 := by
          unfold quoteC at hq
          simp only [Bool.or_eq_true, beq_iff_eq] at hq
          exact hq.resolve_left hq34
        clear hT
        by_cases hdq : d = q
        · have hR : Hid (meantF q 92 (d :: t) = (q, 2)) := Lib.hid (by unfold meantF; simp only []; rw [if_neg (by decide), if_neg hq34, if_pos hdq])
          have hkk : ((s[(1 : Nat)].toNat : Int) == (q.toNat : Int)) = true := by rw [e1, hdq]; simp
          clear hq34 hq hq39 hdq e1
          go_enter Tryz.func128, Tryz.ntmps128
          go_wp2
          go_ret2
          rw [hR.out]
          exact ⟨rfl, Below.refl _ _⟩
        · have hR : Hid (meantF q 92 (d :: t) = (92, 1)) := Lib.hid (by unfold meantF; simp only []; rw [if_neg (by decide), if_neg hq34, if_neg hdq])
          have hkk : ((s[(1 : Nat)].toNat : Int) == (q.toNat : Int)) = false := beq_eq_false_iff_ne.2 (by
            rw [e1]
            intro h
            exact hdq (UInt8.toNat_inj.1 (by omega)))
          clear hq34 hq hq39 hdq e1
          go_enter Tryz.func128, Tryz.ntmps128
          go_wp2
          go_ret2
          rw [hR.out]
          exact ⟨ret_bn (by rw [e0H.out]) rfl, Below.refl _ _⟩
    · have hb : ((s[(0 : Nat)].toNat : Int) != 92) = true := by
        rw [e0]
        exact bne_iff_ne.2 (fun h => h92 (byte_of (n := 92) (by decide) h))
      have hR : Hid (meantF q c (d :: t) = (c, 1)) := Lib.hid (by unfold meantF; simp only []; rw [if_pos h92])
      clear h92 e0 e1 hT
      go_enter Tryz.func128, Tryz.ntmps128
      go_wp2
      go_ret2
      rw [hR.out]
      exact ⟨ret_bn (by rw [e0H.out]) rfl, Below.refl _ _⟩
end Go.Proofs.YtjidopgohdlfdaaGreatDoor.S4
