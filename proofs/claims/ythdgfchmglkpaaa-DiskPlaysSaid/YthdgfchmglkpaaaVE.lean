/-
  The library's exchange of two parts of a row, and its turning of a row about a place. Premise: the row lies in a block that is written in place.
-/
import Derived.Test.YthdgfchmglkpaaaChecked
import Derived.Test.YthdgfchmglkpaaaMath
import Derived.Test.YthdgfchmglkpaaaA
import Derived.Test.YthdgfchmglkpaaaD
import Derived.Test.YthdgfchmglkpaaaE
import Derived.Test.YthdgfchmglkpaaaL
import Derived.Test.YthdgfchmglkpaaaS
import Derived.Test.YthdgfchmglkpaaaVS
import Derived.WalkKit
import Derived.WalkSpells
import Derived.WalkLawsBesides
import Derived.Deep.QuietTactic
import Derived.BigQuiet
import Derived.Lib.Hide
import Derived.Lib.SmallJoins
import Derived.Outline
import Derived.OwnWalk
import Derived.Deep.CutBlock
import Derived.BigRegion
import Derived.StillTailTactics
import Derived.Laws.AppendOwnNone
import Derived.Maps.AppendAt
import Derived.Deep.RegionLaw
import Derived.Deep.RegionHeld3
import Derived.Lib.BufferRead
import Derived.Deep.AppendLies
namespace Go.Proofs.Ythdgfchmglkpaaa
open Go.RowKit
theorem swap_lists {P X N Y S : List Fl} {i n : Nat} (hX : X.length = n) (hY : Y.length = n) (hi : i < n) : ∃ x y, X[i]? = some x ∧ Y[i]? = some y ∧
    P ++ Y.take i ++ X.drop i ++ N ++ X.take i ++ Y.drop i ++ S = (P ++ Y.take i) ++ x :: ((X.drop (i + 1) ++ N ++ X.take i) ++ y :: (Y.drop (i + 1) ++ S)) ∧
    P ++ Y.take (i + 1) ++ X.drop (i + 1) ++ N ++ X.take (i + 1) ++ Y.drop (i + 1) ++ S = (P ++ Y.take i) ++ y :: ((X.drop (i + 1) ++ N ++ X.take i) ++ x :: (Y.drop (i + 1) ++ S)) := by
  have h1 : X.drop i = X[i] :: X.drop (i + 1) := List.drop_eq_getElem_cons (by omega)
  have h2 : Y.drop i = Y[i] :: Y.drop (i + 1) := List.drop_eq_getElem_cons (by omega)
  have h3 : X.take (i + 1) = X.take i ++ [X[i]] := by rw [List.take_add_one, List.getElem?_eq_getElem (by omega)]; rfl
  have h4 : Y.take (i + 1) = Y.take i ++ [Y[i]] := by rw [List.take_add_one, List.getElem?_eq_getElem (by omega)]; rfl
  refine ⟨X[i], Y[i], List.getElem?_eq_getElem (by omega), List.getElem?_eq_getElem (by omega), ?_, ?_⟩
  · rw [h1, h2]; simp only [List.append_assoc, List.cons_append]
  · rw [h3, h4]; simp only [List.append_assoc, List.cons_append, List.nil_append]
set_option maxRecDepth 100000 in
set_option maxHeartbeats 4000000 in
theorem swapRange_any {w : World} {g cap a b n m : Nat} {P X N Y S : List Fl} (fv : Value) (h : SRow w g cap (P ++ X ++ N ++ Y ++ S)) (ha : a = P.length) (hb : b = P.length + n + N.length) (hX : X.length = n) (hY : Y.length = n) (hm : (P ++ X ++ N ++ Y ++ S).length = m) (hcap : m ≤ 1000000) :
    Calls Try.prog 68 #[.slice (some ⟨g, 0, none⟩) m cap, .int .i64 (a : Int), .int .i64 (b : Int), .int .i64 (n : Int), fv] w fun e w' => e = .returned (.tuple #[]) ∧ SRow w' g cap (P ++ Y ++ N ++ X ++ S) ∧ Only [g] w w' := by
  have hml : a + n + N.length + n ≤ m := by rw [← hm]; simp; omega
  have hS0 : Hid (SRow w g cap (P ++ Y.take 0 ++ X.drop 0 ++ N ++ X.take 0 ++ Y.drop 0 ++ S)) := Lib.hid (by simpa using h)
  have hSn : Hid (∀ wr, SRow wr g cap (P ++ Y.take n ++ X.drop n ++ N ++ X.take n ++ Y.drop n ++ S) → SRow wr g cap (P ++ Y ++ N ++ X ++ S)) := Lib.hid (fun wr hr => by
    rw [List.take_of_length_le (by omega), List.take_of_length_le (by omega), List.drop_of_length_le (by omega), List.drop_of_length_le (by omega)] at hr
    simpa using hr)
  have hst : Hid (∀ i, i < n → ∃ x y, ∀ wr, SRow wr g cap (P ++ Y.take i ++ X.drop i ++ N ++ X.take i ++ Y.drop i ++ S) → ∃ M : List Fl, SRow wr g cap M ∧ M[a + i]? = some x ∧ M[b + i]? = some y ∧ SRow (put3 (put3 wr g (a + i) y) g (b + i) x) g cap (P ++ Y.take (i + 1) ++ X.drop (i + 1) ++ N ++ X.take (i + 1) ++ Y.drop (i + 1) ++ S) ∧ Only [g] wr (put3 (put3 wr g (a + i) y) g (b + i) x)) := Lib.hid (fun i hi => by
    obtain ⟨x, y, hx, hy, e1, e2⟩ := swap_lists (P := P) (N := N) (S := S) hX hY hi
    refine ⟨x, y, fun wr hr => ?_⟩
    have q1 : a + i = (P ++ Y.take i).length := by simp; omega
    have q2 : b + i = (P ++ Y.take i).length + 1 + (X.drop (i + 1) ++ N ++ X.take i).length := by simp; omega
    rw [e1] at hr
    obtain ⟨h1, h2⟩ := hr.swap q1 q2
    refine ⟨_, hr, by rw [q1]; exact get_at _ _ _, by rw [q2]; exact get_at2 _ _ _ _ _, ?_, h2⟩
    rw [e2]; exact h1)
  have hne : Hid (∀ i, i < n → a + i ≠ b + i) := Lib.hid (fun i hi => by omega)
  have hbm : Hid (a + n ≤ m ∧ b + n ≤ m) := Lib.hid (by omega)
  have hmH := Lib.hid hcap
  clear h ha hb hX hY hm hml hcap
  go_enter Try.func68, Try.ntmps68
  go_wp2_with fail
  go_loopw [10] (fun s10 wr => ∃ i : Nat, i ≤ n ∧ s10 = .int .i64 i ∧ Hid (SRow wr g cap (P ++ Y.take i ++ X.drop i ++ N ++ X.take i ++ Y.drop i ++ S)) ∧ Hid (Only [g] w wr)) (fun s10 _ => n - (intOf s10).toNat)
  case atStart => exact ⟨0, by omega, rfl, hS0, Lib.hid (Only.refl _ _)⟩
  case round =>
    clear hS0
    obtain ⟨i, hi, rfl, hr, hO⟩ := hrel
    by_cases hil : i < n
    · obtain ⟨x, y, hxy⟩ := hst.out i hil
      obtain ⟨M, hM, hx, hy, hr2, ho2⟩ := hxy wr hr.out
      have hne1 := hne.out i hil
      obtain ⟨hb1, hb2⟩ := hbm.out
      have hm1 := hmH.out
      obtain ⟨p, hp⟩ : ∃ p, p = a + i := ⟨_, rfl⟩
      obtain ⟨q, hq⟩ : ∃ q, q = b + i := ⟨_, rfl⟩
      have s1 : IntKind.i64.wrap ((a : Int) + (i : Int)) = (p : Int) := by rw [wrap_small (by omega)]; omega
      have s2 : IntKind.i64.wrap ((b : Int) + (i : Int)) = (q : Int) := by rw [wrap_small (by omega)]; omega
      have hwk := wrap_small (x := (i : Int) + 1) (by omega)
      rw [← hp, ← hq] at hr2 ho2 hne1
      rw [← hp] at hx
      rw [← hq] at hy
      obtain ⟨⟨⟨x1, x2, x3⟩, ⟨y1, y2, y3⟩⟩, t1, t2, t3, t4, t5, z0, z1, z2, z3, z4, z5⟩ := hM.ways hx hy hne1
      have hixp := run_ixG g p m cap (by omega)
      have hixq := run_ixG g q m cap (by omega)
      have hilH := Lib.hid hil
      have dk : decide ((i : Int) < (n : Int)) = true := decide_eq_true (by omega)
      have dk2 : decide (i < n) = true := decide_eq_true hil
      obtain ⟨xa, xb, xc⟩ := x
      obtain ⟨ya, yb, yc⟩ := y
      unfold put3 at hr2 ho2
      simp only at x1 x2 x3 y1 y2 y3 t1 t2 t3 t4 t5 hr2 ho2
      have hr2H := Lib.hid hr2
      have ho2H := Lib.hid ho2
      clear hM hx hy hr2 ho2 hne1 hxy hil hp hq hb1 hb2 hm1
      go_wp2_with fail
      go_region
      go_wp2_with fail
      go_roundw
      case rel => exact ⟨i + 1, by have := hilH.out; omega, by go_num, Lib.hid (hr2H.out.only (Only.refl [] _).drew (by simp)), Lib.hid ((hO.out.trans ho2H.out (fun k hk => Or.inl hk)).drew)⟩
      case measure => have := hilH.out; simp [intOf]; omega
    · have hin : n = i := by omega
      subst hin
      have dk : decide ((n : Int) < (n : Int)) = false := decide_eq_false (by omega)
      have dk2 : decide (n < n) = false := decide_eq_false (by omega)
      have hf := Lib.hid (hSn.out wr hr.out)
      clear hil
      go_wp2_with fail
      all_goals go_end0
      exact ⟨rfl, hf.out, hO.out⟩
/-- How far the turning has come: P' and S' are done, X' and Y' are left. -/
theorem turn_left {P X Y S P' X' Y' S' : List Fl} {j : Nat} (h : P' ++ Y' ++ X' ++ S' = Y ++ X) (hj : Y'.length = j) (hij : j < X'.length) :
    P ++ P' ++ X' ++ Y' ++ S' ++ S = (P ++ P') ++ X'.take j ++ X'.drop j ++ Y' ++ (S' ++ S) ∧ (P ++ P') ++ Y' ++ X'.drop j ++ X'.take j ++ (S' ++ S) = P ++ (P' ++ Y') ++ X'.drop j ++ X'.take j ++ S' ++ S ∧ (P' ++ Y') ++ X'.take j ++ X'.drop j ++ S' = Y ++ X := by
  have _ := hj
  have _ := hij
  refine ⟨?_, ?_, ?_⟩
  · conv => lhs; rw [← List.take_append_drop j X']
    simp only [List.append_assoc]
  · simp only [List.append_assoc]
  · rw [← h, List.append_assoc (P' ++ Y'), List.take_append_drop]
theorem turn_right {P X Y S P' X' Y' S' : List Fl} {k : Nat} (h : P' ++ Y' ++ X' ++ S' = Y ++ X) :
    P ++ P' ++ X' ++ Y' ++ S' ++ S = (P ++ P') ++ X' ++ Y'.take k ++ Y'.drop k ++ (S' ++ S) ∧ (P ++ P') ++ Y'.drop k ++ Y'.take k ++ X' ++ (S' ++ S) = P ++ P' ++ Y'.drop k ++ Y'.take k ++ (X' ++ S') ++ S ∧ P' ++ Y'.take k ++ Y'.drop k ++ (X' ++ S') = Y ++ X := by
  refine ⟨?_, ?_, ?_⟩
  · conv => lhs; rw [← List.take_append_drop k Y']
    simp only [List.append_assoc]
  · simp only [List.append_assoc]
  · rw [← h, List.append_assoc P', List.take_append_drop, ← List.append_assoc]
structure Turn (g cap a m : Nat) (P X Y S : List Fl) (i j : Nat) (P' X' Y' S' : List Fl) (w : World) : Prop where
  row : SRow w g cap (P ++ P' ++ X' ++ Y' ++ S' ++ S)
  eq : P' ++ Y' ++ X' ++ S' = Y ++ X
  li : X'.length = i
  lj : Y'.length = j
  pi : 0 < i
  pj : 0 < j
  pm : a + P'.length + i = m
set_option maxRecDepth 100000 in
set_option maxHeartbeats 4000000 in
theorem rotate_any {w : World} {g cap a b m n : Nat} {P X Y S : List Fl} (fv : Value) (h : SRow w g cap (P ++ X ++ Y ++ S)) (ha : a = P.length) (hm : m = P.length + X.length) (hb : b = P.length + X.length + Y.length) (hX : 0 < X.length) (hY : 0 < Y.length) (hn : (P ++ X ++ Y ++ S).length = n) (hcap : n ≤ 1000000) :
    Calls Try.prog 67 #[.slice (some ⟨g, 0, none⟩) n cap, .int .i64 (a : Int), .int .i64 (m : Int), .int .i64 (b : Int), fv] w fun e w' => e = .returned (.tuple #[]) ∧ SRow w' g cap (P ++ Y ++ X ++ S) ∧ Only [g] w w' := by
  have hnl : a + X.length + Y.length ≤ n := by rw [← hn]; simp; omega
  obtain ⟨i0, hi0⟩ : ∃ i0, i0 = X.length := ⟨_, rfl⟩
  obtain ⟨j0, hj0⟩ : ∃ j0, j0 = Y.length := ⟨_, rfl⟩
  have s1 : IntKind.i64.wrap ((m : Int) - (a : Int)) = (i0 : Int) := by rw [wrap_small (by omega)]; omega
  have s2 : IntKind.i64.wrap ((b : Int) - (m : Int)) = (j0 : Int) := by rw [wrap_small (by omega)]; omega
  have hT0 : Hid (Turn g cap a m P X Y S i0 j0 [] X Y [] w) := Lib.hid ⟨by simpa using h, by simp, hi0.symm, hj0.symm, by omega, by omega, by simp; omega⟩
  have hlen : Hid (∀ P' X' Y' S' : List Fl, P' ++ Y' ++ X' ++ S' = Y ++ X → (P ++ P' ++ X' ++ Y' ++ S' ++ S).length = n ∧ a + P'.length + Y'.length + X'.length ≤ n ∧ P'.length + Y'.length + X'.length + S'.length = i0 + j0) := Lib.hid (fun P' X' Y' S' e => by
    have := congrArg List.length e
    rw [← hn]
    simp only [List.length_append] at this ⊢
    simp only [List.length_append] at hn
    omega)
  have haH := Lib.hid ha
  have hnH := Lib.hid hcap
  have hsum : Hid (a + i0 + j0 ≤ n) := Lib.hid (by omega)
  clear h ha hm hb hX hY hn hnl hi0 hj0
  go_enter Try.func67, Try.ntmps67
  go_wp2_with fail
  go_loopw [10, 11] (fun s10 s11 wr => ∃ (i j : Nat) (P' X' Y' S' : List Fl), s10 = .int .i64 i ∧ s11 = .int .i64 j ∧ Hid (Turn g cap a m P X Y S i j P' X' Y' S' wr) ∧ Hid (Only [g] w wr)) (fun s10 s11 _ => (intOf s10).toNat + (intOf s11).toNat)
  case atStart => exact ⟨i0, j0, [], X, Y, [], rfl, rfl, hT0, Lib.hid (Only.refl _ _)⟩
  case round =>
    clear hT0 s1 s2
    obtain ⟨i, j, P', X', Y', S', rfl, rfl, hT, hO⟩ := hrel
    obtain ⟨hrow, heq, hli, hlj, hpi, hpj, hpm⟩ := hT.out
    obtain ⟨hl1, hl2, hl3⟩ := hlen.out _ _ _ _ heq
    have hn1 := hnH.out
    have hs0 := hsum.out
    have ha0 := haH.out
    obtain ⟨p, hp⟩ : ∃ p, p = a + P'.length := ⟨_, rfl⟩
    have e1 : IntKind.i64.wrap ((m : Int) - (i : Int)) = (p : Int) := by rw [wrap_small (by omega)]; omega
    rcases Nat.lt_trichotomy i j with hij | hij | hij
    · -- the left part is the shorter one
      obtain ⟨k, hk⟩ : ∃ k, k = j - i := ⟨_, rfl⟩
      obtain ⟨q, hq⟩ : ∃ q, q = m + k := ⟨_, rfl⟩
      obtain ⟨r, hr⟩ : ∃ r, r = m + j := ⟨_, rfl⟩
      have e2 : IntKind.i64.wrap ((m : Int) + (j : Int)) = (r : Int) := by rw [wrap_small (by omega)]; omega
      have e3 : IntKind.i64.wrap ((r : Int) - (i : Int)) = (q : Int) := by rw [wrap_small (by omega)]; omega
      have e4 : IntKind.i64.wrap ((j : Int) - (i : Int)) = (k : Int) := by rw [wrap_small (by omega)]; omega
      obtain ⟨t1, t2, t3⟩ := turn_right (P := P) (S := S) (k := k) heq
      have hC : Hid (Calls Try.prog 68 #[.slice (some ⟨g, 0, none⟩) n cap, .int .i64 (p : Int), .int .i64 (q : Int), .int .i64 (i : Int), fv] wr fun e w' => e = .returned (.tuple #[]) ∧ Turn g cap a m P X Y S i k P' (Y'.drop k) (Y'.take k) (X' ++ S') w' ∧ Only [g] wr w') := Lib.hid (by
        rw [t1] at hrow
        refine (swapRange_any fv hrow (by simp; omega) (by simp; omega) hli (by simp; omega) (by rw [← t1]; exact hl1) hn1).mono ?_
        rintro e w' ⟨rfl, hr, ho⟩
        rw [t2] at hr
        exact ⟨rfl, ⟨hr, t3, by simp; omega, by simp; omega, hpi, by omega, hpm⟩, ho⟩)
      have d1 : ((i : Int) == (j : Int)) = false := beq_false_of_ne (by omega)
      have d2 : ((i : Int) != (j : Int)) = true := by rw [bne, d1]; rfl
      have d3 : (i == j) = false := beq_false_of_ne (by omega)
      have d4 : (i != j) = true := by rw [bne, d3]; rfl
      have d5 : decide ((j : Int) < (i : Int)) = false := decide_eq_false (by omega)
      have d6 : decide (j < i) = false := decide_eq_false (by omega)
      have hijH := Lib.hid hij
      have hkH := Lib.hid hk
      have hpiH := Lib.hid hpi
      clear hrow heq hli hlj hpi hpj hpm hl1 hl2 hl3 hn1 hs0 ha0 hp hk hq hr hij t1 t2 t3 hT
      go_wp2_with (go_at_call 68; (with_reducible refine (hC.out).mono ?_); rintro e w3 ⟨rfl, hT3, hO3⟩)
      have hT3H := Lib.hid hT3
      have hO3H := Lib.hid (hO.out.trans hO3 (fun k hk => Or.inl hk))
      clear hT3 hO3
      go_roundw
      case rel => exact ⟨i, k, _, _, _, _, by go_num, by go_num, hT3H, hO3H⟩
      case measure => have := hijH.out; have := hkH.out; have := hpiH.out; simp [intOf]; omega
    · -- both parts have one length
      subst hij
      have hC : Hid (Calls Try.prog 68 #[.slice (some ⟨g, 0, none⟩) n cap, .int .i64 (p : Int), .int .i64 (m : Int), .int .i64 (i : Int), fv] wr fun e w' => e = .returned (.tuple #[]) ∧ SRow w' g cap (P ++ Y ++ X ++ S) ∧ Only [g] wr w') := Lib.hid (by
        have t1 : P ++ P' ++ X' ++ Y' ++ S' ++ S = (P ++ P') ++ X' ++ [] ++ Y' ++ (S' ++ S) := by simp only [List.append_assoc, List.append_nil]
        rw [t1] at hrow
        refine (swapRange_any fv hrow (by simp; omega) (by simp; omega) hli hlj (by rw [← t1]; exact hl1) hn1).mono ?_
        rintro e w' ⟨rfl, hr, ho⟩
        refine ⟨rfl, ?_, ho⟩
        have t2 : (P ++ P') ++ Y' ++ [] ++ X' ++ (S' ++ S) = P ++ (P' ++ Y' ++ X' ++ S') ++ S := by simp only [List.append_assoc, List.append_nil]
        rw [t2, heq, ← List.append_assoc] at hr
        exact hr)
      have d1 : ((i : Int) == (i : Int)) = true := by simp
      have d2 : ((i : Int) != (i : Int)) = false := by simp
      have d3 : (i == i) = true := by simp
      have d4 : (i != i) = false := by simp
      clear hrow heq hli hlj hpi hpj hpm hl1 hl2 hl3 hn1 hs0 ha0 hp hT
      go_wp2_with (go_at_call 68; (with_reducible refine (hC.out).mono ?_); rintro e w3 ⟨rfl, hr3, hO3⟩)
      go_end0
      exact ⟨rfl, hr3, hO.out.trans hO3 (fun k hk => Or.inl hk)⟩
    · -- the right part is the shorter one
      obtain ⟨k, hk⟩ : ∃ k, k = i - j := ⟨_, rfl⟩
      have e4 : IntKind.i64.wrap ((i : Int) - (j : Int)) = (k : Int) := by rw [wrap_small (by omega)]; omega
      obtain ⟨t1, t2, t3⟩ := turn_left (P := P) (S := S) (j := j) heq hlj (by omega)
      have hC : Hid (Calls Try.prog 68 #[.slice (some ⟨g, 0, none⟩) n cap, .int .i64 (p : Int), .int .i64 (m : Int), .int .i64 (j : Int), fv] wr fun e w' => e = .returned (.tuple #[]) ∧ Turn g cap a m P X Y S k j (P' ++ Y') (X'.drop j) (X'.take j) S' w' ∧ Only [g] wr w') := Lib.hid (by
        rw [t1] at hrow
        refine (swapRange_any fv hrow (by simp; omega) (by simp; omega) (by simp; omega) hlj (by rw [← t1]; exact hl1) hn1).mono ?_
        rintro e w' ⟨rfl, hr, ho⟩
        rw [t2] at hr
        exact ⟨rfl, ⟨hr, t3, by simp; omega, by simp; omega, by omega, hpj, by simp; omega⟩, ho⟩)
      have d1 : ((i : Int) == (j : Int)) = false := beq_false_of_ne (by omega)
      have d2 : ((i : Int) != (j : Int)) = true := by rw [bne, d1]; rfl
      have d3 : (i == j) = false := beq_false_of_ne (by omega)
      have d4 : (i != j) = true := by rw [bne, d3]; rfl
      have d5 : decide ((j : Int) < (i : Int)) = true := decide_eq_true (by omega)
      have d6 : decide (j < i) = true := decide_eq_true (by omega)
      have hijH := Lib.hid hij
      have hkH := Lib.hid hk
      have hpjH := Lib.hid hpj
      clear hrow heq hli hlj hpi hpj hpm hl1 hl2 hl3 hn1 hs0 ha0 hp hk hij t1 t2 t3 hT
      go_wp2_with (go_at_call 68; (with_reducible refine (hC.out).mono ?_); rintro e w3 ⟨rfl, hT3, hO3⟩)
      have hT3H := Lib.hid hT3
      have hO3H := Lib.hid (hO.out.trans hO3 (fun k hk => Or.inl hk))
      clear hT3 hO3
      go_roundw
      case rel => exact ⟨k, j, _, _, _, _, by go_num, by go_num, hT3H, hO3H⟩
      case measure => have := hijH.out; have := hkH.out; have := hpjH.out; simp [intOf]; omega
end Go.Proofs.Ythdgfchmglkpaaa
