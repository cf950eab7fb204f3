/-
  The walk of scan.Turn. The table of factors holds what the program's text lays; a table's shape; a cursor's bound.
-/
import Derived.Test.YtdldgiicblmknaaDoorSF
namespace Go.Proofs.YtdldgiicblmknaaDoor
open Go.RowKit

theorem szN_nat {s : Nat} (h : s ≤ 16) : szN (s : Int) = s := by unfold szN; omega
theorem next_at (c s : Nat) (hc : c < 18446744073709551616) (hs : s ≤ 16) (w : World) : Calls Tryd.prog 32 #[.int .u64 c, .int .i64 s] w fun e w' => e = .returned (.int .u64 ((nxt s c : Nat) : Int)) ∧ w = w' := by
  have := next_any c s hc w
  rwa [szN_nat hs] at this
theorem place_at (c s : Nat) (hc : c < 18446744073709551616) (hs : s ≤ 16) (w : World) : Calls Tryd.prog 34 #[.int .u64 c, .int .i64 s] w fun e w' => e = .returned (.int .i64 ((c % pw s : Nat) : Int)) ∧ w = w' := by
  have := place_any c s hc w
  rwa [szN_nat hs] at this

set_option maxHeartbeats 2000000 in
theorem turn_at {B : Nat} {X : Tb} {w : World} (h : Ok B X w) (hP : Par X) (c : Nat) (hc : c < 18446744073709551616) :
    Calls Tryd.prog 13 #[.pointer (some ⟨X.T, 0, none⟩), .int .u64 c] w fun r w' => ∃ v', r = .returned (.tuple #[.int .u64 ((nxt (tS X) c : Nat) : Int), v']) ∧ RowT w' w.heap.size v' (kys (tL X c)) ∧ Below w.heap.size w w' := by
  obtain ⟨hs2, hs16, hsh⟩ := shape h.inv hP
  have hnx := fun w => next_at c (tS X) hc hs16 w
  have hpl := fun w => place_at c (tS X) hc hs16 w
  have hH := Lib.hid h
  have hch : Hid (∀ w1, Below w.heap.size w w1 → ∀ (b : Bool) (n : Nat), Calls Tryd.prog 33 #[.pointer (some ⟨X.T, 0, none⟩), .bool b, .int .i64 n] w1 fun r w' => ∃ v', r = .returned v' ∧ RowT w' w1.heap.size v' (kys ((if b then X.old else X.new).getD n [])) ∧ Below w1.heap.size w1 w') := Lib.hid fun w1 hb b n => chain_at (hH.out.after hb) b n
  generalize tS X = s at *
  rcases hsh with ⟨hn, hz, hL⟩ | ⟨hn, h1, h2, h3, hL⟩ | ⟨hn, h1, h2, h3, hL⟩
  · have hsz := size_at h hz
    have htw := toward_at h (k := 2) (by rw [hn]; exact Or.inl ⟨rfl, rfl⟩)
    rw [if_pos hn] at htw
    rw [hL]
    have hpb := Nat.mod_lt c (pw_pos s)
    have hps := pw_le hs16
    clear hL
    generalize c % pw s = p at *
    have hszH := Lib.hid hsz
    have htwH := Lib.hid htw
    have hc0 := hch.out w (Below.refl _ _) true p
    simp only [if_true] at hc0
    have hc0H := Lib.hid hc0
    have hnxH := Lib.hid hnx
    have hplH := Lib.hid hpl
    clear hsz htw h hnx hpl hc0 hn hz hP
    go_enter Tryd.func13, Tryd.ntmps13
    go_wp2_with (first
      | (go_at_call 30; ((with_reducible refine (hszH.out).mono ?_); rintro e w' ⟨rfl, rfl⟩))
      | (go_at_call 31; ((with_reducible refine (htwH.out).mono ?_); rintro e w' ⟨rfl, rfl⟩))
      | (go_at_call 32; ((with_reducible refine (hnxH.out _).mono ?_); rintro e w' ⟨rfl, rfl⟩))
      | (go_at_call 34; ((with_reducible refine (hplH.out _).mono ?_); rintro e w' ⟨rfl, rfl⟩))
      | (go_at_call 33; ((with_reducible refine (hc0H.out).mono ?_); rintro e w3 ⟨v3, rfl, how3, hb3⟩)))
    go_ret2
    exact ⟨v3, rfl, how3, hb3⟩
  · have hsz := size_at h (k := s) (Or.inr ⟨hs2, hs16, h1⟩)
    have htw := toward_at h (k := s + 1) (Or.inr ⟨by omega, h3, h2⟩)
    rw [if_neg hn] at htw
    rw [hL]
    have hpb := Nat.mod_lt c (pw_pos s)
    have hps := pw_le hs16
    have hps1 := pw_succ s
    clear hL
    generalize c % pw s = p at *
    generalize ht : s + 1 = t at *
    have hshl : wrap64 (2 ^ s) = ((pw s : Nat) : Int) := by
      have h1 : ((2 : Int) ^ s) = ((pw s : Nat) : Int) := by unfold pw; rw [Int.natCast_pow]; rfl
      rw [h1]
      exact IntWalk.wrap64_in _ (by omega)
    have hadd : ((p : Int) + ((pw s : Nat) : Int)) = ((p + pw s : Nat) : Int) := by omega
    generalize hq : p + pw s = q at *
    have hle := part_len h.inv
    have hszH := Lib.hid hsz
    have htwH := Lib.hid htw
    have hnxH := Lib.hid hnx
    have hplH := Lib.hid hpl
    have hleH := Lib.hid hle
    have hmin : min (s : Int) (t : Int) = (s : Int) := by omega
    have heq : (((s : Nat) : Int) == ((s : Nat) : Int)) = true := by simp
    have hdeq : decide (((s : Nat) : Int) = ((s : Nat) : Int)) = true := by simp
    clear hsz htw h hnx hpl hn h1 h2 hP hle
    go_enter Tryd.func13, Tryd.ntmps13
    go_upto_region 7 with (first
      | (go_at_call 30; ((with_reducible refine (hszH.out).mono ?_); rintro e w' ⟨rfl, rfl⟩))
      | (go_at_call 31; ((with_reducible refine (htwH.out).mono ?_); rintro e w' ⟨rfl, rfl⟩))
      | (go_at_call 34; ((with_reducible refine (hplH.out _).mono ?_); rintro e w' ⟨rfl, rfl⟩)))
    have hc0 := hch.out w (Below.refl _ _) true p
    simp only [if_true] at hc0
    have hc0H := Lib.hid hc0
    clear hc0
    go_upto_region 8 with (go_at_call 33; ((with_reducible refine (hc0H.out).mono ?_); rintro e w1 ⟨v1, rfl, how1, hb1⟩))
    have hc1 := hch.out w1 hb1 false p
    simp only [Bool.false_eq_true, if_false] at hc1
    have hc1H := Lib.hid hc1
    have how1H := Lib.hid how1
    have hb1H := Lib.hid hb1
    clear hc1 how1 hb1
    go_upto_region 9 with (first
      | (go_at_call 33; ((with_reducible refine (hc1H.out).mono ?_); rintro e w2 ⟨v2, rfl, how2, hb2⟩))
      | (at_builtin; refine wpList_append_rowT rfl (.tmp 39) (.tmp 44) rfl w.heap.size w1.heap.size v1 v2 _ _ rfl rfl (how1H.out.stay hb2) how2 (by rw [kys_len, kys_len]; have := hleH.out.1 p; have := hleH.out.2 p; omega) (by have := hb1H.out.size; have := hb2.size; omega) ?happ1))
    case happ1 =>
      intro v3 w3 how3 ho3 hv3
      have hb12 : Below w.heap.size w w2 := onB hb1H.out hb2 hb1H.out.size
      have hb13 : Below w.heap.size w w3 := hb12.trans (ho3.below hb12.size (fun k hk => (how1H.out.lt k (by simpa using hk)).1))
      have hc2 := hch.out w3 hb13 false q
      simp only [Bool.false_eq_true, if_false] at hc2
      have hc2H := Lib.hid hc2
      have how3H := Lib.hid how3
      have hb13H := Lib.hid hb13
      clear hc2 how3 hb13 ho3 hv3 how2 hb2 hb12
      go_upto_region 9 with fail
      go_upto_region 10 with (first
        | (go_at_call 33; ((with_reducible refine (hc2H.out).mono ?_); rintro e w4 ⟨v4, rfl, how4, hb4⟩))
        | (at_builtin; refine wpList_append_rowT rfl (.tmp 46) (.tmp 54) rfl w.heap.size w3.heap.size v3 v4 _ _ rfl rfl (how3H.out.stay hb4) how4 (by rw [List.length_append, kys_len, kys_len, kys_len]; have := hleH.out.1 p; have := hleH.out.2 p; have := hleH.out.1 q; have := hleH.out.2 q; simp only [List.getD_eq_getElem?_getD] at *; omega) (by have := hb13H.out.size; have := hb4.size; omega) ?happ2))
      case happ2 =>
        intro v5 w5 how5 ho5 hv5
        have hb14 : Below w.heap.size w w4 := onB hb13H.out hb4 hb13H.out.size
        have hb15 := Lib.hid (hb14.trans (ho5.below hb14.size (fun k hk => (how3H.out.lt k (by simpa using hk)).1)))
        have how5H := Lib.hid how5
        clear how5 ho5 hv5 how4 hb4 hb14
        go_wp2_with (go_at_call 32; ((with_reducible refine (hnxH.out _).mono ?_); rintro e w' ⟨rfl, rfl⟩))
        go_ret2
        exact ⟨v5, rfl, by simpa [kys_append, List.getD_eq_getElem?_getD] using how5H.out, hb15.out⟩
  · have hsz := size_at h (k := s + 1) (Or.inr ⟨by omega, h3, h2⟩)
    have htw := toward_at h (k := s) (Or.inr ⟨hs2, hs16, h1⟩)
    rw [if_neg hn] at htw
    rw [hL]
    have hpb := Nat.mod_lt c (pw_pos s)
    have hps := pw_le hs16
    have hps1 := pw_succ s
    clear hL
    generalize c % pw s = p at *
    generalize ht : s + 1 = t at *
    have hshl : wrap64 (2 ^ s) = ((pw s : Nat) : Int) := by
      have h1 : ((2 : Int) ^ s) = ((pw s : Nat) : Int) := by unfold pw; rw [Int.natCast_pow]; rfl
      rw [h1]
      exact IntWalk.wrap64_in _ (by omega)
    have hadd : ((p : Int) + ((pw s : Nat) : Int)) = ((p + pw s : Nat) : Int) := by omega
    generalize hq : p + pw s = q at *
    have hle := part_len h.inv
    have hszH := Lib.hid hsz
    have htwH := Lib.hid htw
    have hnxH := Lib.hid hnx
    have hplH := Lib.hid hpl
    have hleH := Lib.hid hle
    have hmin : min (t : Int) (s : Int) = (s : Int) := by omega
    have heq : (((t : Nat) : Int) == ((s : Nat) : Int)) = false := by simp; omega
    have hdeq : decide (((t : Nat) : Int) = ((s : Nat) : Int)) = false := by simp; omega
    clear hsz htw h hnx hpl hn h1 h2 hP hle
    go_enter Tryd.func13, Tryd.ntmps13
    go_upto_region 7 with (first
      | (go_at_call 30; ((with_reducible refine (hszH.out).mono ?_); rintro e w' ⟨rfl, rfl⟩))
      | (go_at_call 31; ((with_reducible refine (htwH.out).mono ?_); rintro e w' ⟨rfl, rfl⟩))
      | (go_at_call 34; ((with_reducible refine (hplH.out _).mono ?_); rintro e w' ⟨rfl, rfl⟩)))
    have hc0 := hch.out w (Below.refl _ _) false p
    simp only [Bool.false_eq_true, if_false] at hc0
    have hc0H := Lib.hid hc0
    clear hc0
    go_upto_region 8 with (go_at_call 33; ((with_reducible refine (hc0H.out).mono ?_); rintro e w1 ⟨v1, rfl, how1, hb1⟩))
    have hc1 := hch.out w1 hb1 true p
    simp only [if_true] at hc1
    have hc1H := Lib.hid hc1
    have how1H := Lib.hid how1
    have hb1H := Lib.hid hb1
    clear hc1 how1 hb1
    go_upto_region 9 with (first
      | (go_at_call 33; ((with_reducible refine (hc1H.out).mono ?_); rintro e w2 ⟨v2, rfl, how2, hb2⟩))
      | (at_builtin; refine wpList_append_rowT rfl (.tmp 39) (.tmp 44) rfl w.heap.size w1.heap.size v1 v2 _ _ rfl rfl (how1H.out.stay hb2) how2 (by rw [kys_len, kys_len]; have := hleH.out.1 p; have := hleH.out.2 p; omega) (by have := hb1H.out.size; have := hb2.size; omega) ?happ1))
    case happ1 =>
      intro v3 w3 how3 ho3 hv3
      have hb12 : Below w.heap.size w w2 := onB hb1H.out hb2 hb1H.out.size
      have hb13 : Below w.heap.size w w3 := hb12.trans (ho3.below hb12.size (fun k hk => (how1H.out.lt k (by simpa using hk)).1))
      have hc2 := hch.out w3 hb13 true q
      simp only [if_true] at hc2
      have hc2H := Lib.hid hc2
      have how3H := Lib.hid how3
      have hb13H := Lib.hid hb13
      clear hc2 how3 hb13 ho3 hv3 how2 hb2 hb12
      go_upto_region 9 with fail
      go_upto_region 10 with (first
        | (go_at_call 33; ((with_reducible refine (hc2H.out).mono ?_); rintro e w4 ⟨v4, rfl, how4, hb4⟩))
        | (at_builtin; refine wpList_append_rowT rfl (.tmp 46) (.tmp 54) rfl w.heap.size w3.heap.size v3 v4 _ _ rfl rfl (how3H.out.stay hb4) how4 (by rw [List.length_append, kys_len, kys_len, kys_len]; have := hleH.out.1 p; have := hleH.out.2 p; have := hleH.out.1 q; have := hleH.out.2 q; simp only [List.getD_eq_getElem?_getD] at *; omega) (by have := hb13H.out.size; have := hb4.size; omega) ?happ2))
      case happ2 =>
        intro v5 w5 how5 ho5 hv5
        have hb14 : Below w.heap.size w w4 := onB hb13H.out hb4 hb13H.out.size
        have hb15 := Lib.hid (hb14.trans (ho5.below hb14.size (fun k hk => (how3H.out.lt k (by simpa using hk)).1)))
        have how5H := Lib.hid how5
        clear how5 ho5 hv5 how4 hb4 hb14
        go_wp2_with (go_at_call 32; ((with_reducible refine (hnxH.out _).mono ?_); rintro e w' ⟨rfl, rfl⟩))
        go_ret2
        exact ⟨v5, rfl, by simpa [kys_append, List.getD_eq_getElem?_getD] using how5H.out, hb15.out⟩

end Go.Proofs.YtdldgiicblmknaaDoor
