/-
  The walks of package glob's small functions. No condition but the lengths that Go's own strings have.
-/
import Derived.Test.YtadihlmpkckakaaDoorChecked
import Derived.Test.YtadihlmpkckakaaDoorMath
import Derived.Test.YtadihlmpkckakaaDoorShelf
import Derived.WalkKit
import Derived.WalkSpells
import Derived.WalkLawsBesides
import Derived.Deep.QuietTactic
import Derived.BigQuiet
import Derived.Lib.Hide
import Derived.Lib.Strings
import Derived.Outline
namespace Go.Proofs.YtadihlmpkckakaaDoor
open Go.RowKit Gl

theorem cons1 (s : ByteArray) (i : Nat) (h : i < s.size) : s.data.toList.drop i = s[i] :: s.data.toList.drop (i + 1) :=
  List.drop_eq_getElem_cons (by simpa using h)
theorem cons2 (s : ByteArray) (i : Nat) (h : i + 1 < s.size) : s.data.toList.drop i = s[i] :: s[i + 1] :: s.data.toList.drop (i + 2) := by
  rw [cons1 s i (by omega), cons1 s (i + 1) h]
theorem cons3 (s : ByteArray) (i : Nat) (h : i + 2 < s.size) : s.data.toList.drop i = s[i] :: s[i + 1] :: s[i + 2] :: s.data.toList.drop (i + 3) := by
  rw [cons2 s i (by omega), cons1 s (i + 2) h]
theorem none0 (s : ByteArray) (i : Nat) (h : s.size ≤ i) : s.data.toList.drop i = [] := List.drop_eq_nil_of_le (by simpa using h)
theorem byte_of {c : UInt8} {n : Nat} (hn : n < 256) (h : (c.toNat : Int) = n) : c = UInt8.ofNat n := by
  apply UInt8.toNat.inj
  simp
  omega
theorem byte_ne {c d : UInt8} (h : ¬ (c.toNat : Int) = (d.toNat : Int)) : c ≠ d := fun e => h (by rw [e])

/-- A pattern's first byte, be it quoted or not, and how many bytes it takes. -/
def lit : List UInt8 → UInt8 × Nat
  | [] => (0, 1)
  | [a] => (a, 1)
  | a :: b :: _ => if a = 92 then (b, 2) else (a, 1)
def litB (l : List UInt8) : Int := ((lit l).1.toNat : Int)
def litN (l : List UInt8) : Int := ((lit l).2 : Int)
theorem lit_esc (s : ByteArray) (i : Nat) (h : i + 1 < s.size) (h2 : (s[i].toNat : Int) = 92) : litB (s.data.toList.drop i) = (s[i + 1].toNat : Int) ∧ litN (s.data.toList.drop i) = 2 := by
  have e : s[i] = 92 := byte_of (by decide) h2
  unfold litB litN
  rw [cons2 s i h, e]
  exact ⟨rfl, rfl⟩
theorem lit_last (s : ByteArray) (i : Nat) (h : i < s.size) (h2 : s.size ≤ i + 1) : litB (s.data.toList.drop i) = (s[i].toNat : Int) ∧ litN (s.data.toList.drop i) = 1 := by
  unfold litB litN
  rw [cons1 s i h, none0 s (i + 1) h2]
  exact ⟨rfl, rfl⟩
theorem lit_plain (s : ByteArray) (i : Nat) (h : i < s.size) (h2 : ¬ (s[i].toNat : Int) = 92) : litB (s.data.toList.drop i) = (s[i].toNat : Int) ∧ litN (s.data.toList.drop i) = 1 := by
  by_cases h3 : i + 1 < s.size
  · have e : ¬ s[i] = 92 := fun e => h2 (by rw [e]; rfl)
    unfold litB litN
    rw [cons2 s i h3]
    simp only [lit, if_neg e]
    exact ⟨trivial, rfl⟩
  · exact lit_last s i h (by omega)
theorem ret_bn {a a' b b' : Int} (h1 : a' = a) (h2 : b' = b) : Ending.returned (.tuple #[.int .u8 a, .int .i64 b]) = .returned (.tuple #[.int .u8 a', .int .i64 b']) := by rw [h1, h2]

set_option maxHeartbeats 400000 in
theorem lit_any (s : ByteArray) (w : World) (hs : s.size ≤ maxLen) (h0 : 0 < s.size) :
    Calls Tryd.prog 22 #[.string s] w fun e w' => e = .returned (.tuple #[.int .u8 (litB (s.data.toList.drop 0)), .int .i64 (litN (s.data.toList.drop 0))]) ∧ w = w' := by
  unfold maxLen at hs
  go_enter Tryd.func22, Tryd.ntmps22
  go_wp2
  · have hn := lit_esc s 0 (by omega) (by assumption)
    go_ret2
    exact ⟨ret_bn hn.1 hn.2, rfl⟩
  · have h92 : (s[(0 : Nat)].toNat : Int) = 92 := by assumption
    have hn := lit_last s 0 h0 (by omega)
    rw [h92] at hn
    go_ret2
    exact ⟨ret_bn hn.1 hn.2, rfl⟩
  · have hn := lit_plain s 0 h0 (by assumption)
    go_ret2
    exact ⟨ret_bn hn.1 hn.2, rfl⟩

/-- A class's item. -/
def itL (l : List UInt8) : Int := ((item l).1.toNat : Int)
def itH (l : List UInt8) : Int := ((item l).2.1.toNat : Int)
def itN (l : List UInt8) : Int := ((item l).2.2 : Int)
theorem it_esc (s : ByteArray) (i : Nat) (h : i + 1 < s.size) (h2 : (s[i].toNat : Int) = 92) : itL (s.data.toList.drop i) = (s[i + 1].toNat : Int) ∧ itH (s.data.toList.drop i) = (s[i + 1].toNat : Int) ∧ itN (s.data.toList.drop i) = 2 := by
  have e : s[i] = 92 := byte_of (by decide) h2
  unfold itL itH itN
  by_cases h3 : i + 2 < s.size
  · rw [cons3 s i h3, e]; exact ⟨rfl, rfl, rfl⟩
  · rw [cons2 s i h, e, none0 s (i + 2) (by omega)]; exact ⟨rfl, rfl, rfl⟩
theorem it_range (s : ByteArray) (i : Nat) (h : i + 2 < s.size) (h2 : ¬ (s[i].toNat : Int) = 92) (h3 : (s[i + 1].toNat : Int) = 45) (h4 : ¬ (s[i + 2].toNat : Int) = 93) :
    itL (s.data.toList.drop i) = min (s[i].toNat : Int) (s[i + 2].toNat : Int) ∧ itH (s.data.toList.drop i) = max (s[i].toNat : Int) (s[i + 2].toNat : Int) ∧ itN (s.data.toList.drop i) = 3 := by
  have e : ¬ s[i] = 92 := fun e => h2 (by rw [e]; rfl)
  have e1 : s[i + 1] = 45 := byte_of (by decide) h3
  have e2 : s[i + 2] ≠ 93 := fun e => h4 (by rw [e]; rfl)
  unfold itL itH itN
  rw [cons3 s i h]
  simp only [item, if_neg e]
  rw [if_pos ⟨e1, e2⟩]
  by_cases h5 : s[i] < s[i + 2]
  · rw [if_pos h5]
    have := UInt8.lt_iff_toNat_lt.1 h5
    exact ⟨by dsimp only; omega, by dsimp only; omega, rfl⟩
  · rw [if_neg h5]
    have : ¬ s[i].toNat < s[i + 2].toNat := fun x => h5 (UInt8.lt_iff_toNat_lt.2 x)
    exact ⟨by dsimp only; omega, by dsimp only; omega, rfl⟩
theorem it_plain (s : ByteArray) (i : Nat) (h : i < s.size) (h2 : ¬ (s[i].toNat : Int) = 92 ∨ s.size ≤ i + 1) (h3 : s.size ≤ i + 2 ∨ ∃ x y : UInt8, s[i + 1]? = some x ∧ s[i + 2]? = some y ∧ (¬ (x.toNat : Int) = 45 ∨ (y.toNat : Int) = 93)) :
    itL (s.data.toList.drop i) = (s[i].toNat : Int) ∧ itH (s.data.toList.drop i) = (s[i].toNat : Int) ∧ itN (s.data.toList.drop i) = 1 := by
  unfold itL itH itN
  by_cases h4 : i + 1 < s.size
  · have e : ¬ s[i] = 92 := by
      rcases h2 with h2 | h2
      · exact fun e => h2 (by rw [e]; rfl)
      · omega
    by_cases h5 : i + 2 < s.size
    · rcases h3 with h3 | ⟨x, y, hx, hy, h6⟩
      · omega
      · have ex : s[i + 1] = x := by rw [getElem?_pos s (i + 1) h4] at hx; exact Option.some.inj hx
        have ey : s[i + 2] = y := by rw [getElem?_pos s (i + 2) h5] at hy; exact Option.some.inj hy
        rw [cons3 s i h5, ex, ey]
        simp only [item, if_neg e]
        rw [if_neg]
        · exact ⟨rfl, rfl, rfl⟩
        · rintro ⟨rfl, h8⟩
          rcases h6 with h6 | h6
          · exact h6 rfl
          · exact h8 (byte_of (by decide) h6)
    · rw [cons2 s i h4, none0 s (i + 2) (by omega)]
      simp only [item, if_neg e]
      exact ⟨trivial, trivial, rfl⟩
  · rw [cons1 s i h, none0 s (i + 1) (by omega)]
    exact ⟨rfl, rfl, rfl⟩
theorem ret_bbn {a a' b b' c c' : Int} (h : a' = a ∧ b' = b ∧ c' = c) : Ending.returned (.tuple #[.int .u8 a, .int .u8 b, .int .i64 c]) = .returned (.tuple #[.int .u8 a', .int .u8 b', .int .i64 c']) := by rw [h.1, h.2.1, h.2.2]

theorem item_lit1 (l : List UInt8) (h : l.length ≤ 2) : (item l).1 = (lit l).1 ∧ (item l).2.1 = (lit l).1 ∧ (item l).2.2 = (lit l).2 := by
  match l, h with
  | [], _ => exact ⟨rfl, rfl, rfl⟩
  | [a], _ => exact ⟨rfl, rfl, rfl⟩
  | [a, b], _ =>
    by_cases h2 : a = 92
    · subst h2; exact ⟨rfl, rfl, rfl⟩
    · simp [item, lit, h2]
theorem item_lit2 (a b c : UInt8) (t : List UInt8) (h : a = 92 ∨ b ≠ 45 ∨ c = 93) : (item (a :: b :: c :: t)).1 = (lit (a :: b :: c :: t)).1 ∧ (item (a :: b :: c :: t)).2.1 = (lit (a :: b :: c :: t)).1 ∧ (item (a :: b :: c :: t)).2.2 = (lit (a :: b :: c :: t)).2 := by
  by_cases h2 : a = 92
  · subst h2; exact ⟨rfl, rfl, rfl⟩
  · have h3 : ¬ (b = 45 ∧ c ≠ 93) := by
      rintro ⟨e1, e2⟩
      rcases h with h | h | h
      · exact h2 h
      · exact h e1
      · exact e2 h
    simp [item, lit, h2, h3]
theorem it_lit (s : ByteArray) (i : Nat) (h : s.size ≤ i + 2 ∨ ∃ x y z : UInt8, s[i]? = some x ∧ s[i + 1]? = some y ∧ s[i + 2]? = some z ∧ ((x.toNat : Int) = 92 ∨ ¬ (y.toNat : Int) = 45 ∨ (z.toNat : Int) = 93)) :
    itL (s.data.toList.drop i) = litB (s.data.toList.drop i) ∧ itH (s.data.toList.drop i) = litB (s.data.toList.drop i) ∧ itN (s.data.toList.drop i) = litN (s.data.toList.drop i) := by
  have key : (item (s.data.toList.drop i)).1 = (lit (s.data.toList.drop i)).1 ∧ (item (s.data.toList.drop i)).2.1 = (lit (s.data.toList.drop i)).1 ∧ (item (s.data.toList.drop i)).2.2 = (lit (s.data.toList.drop i)).2 := by
    by_cases h5 : i + 2 < s.size
    · rcases h with h | ⟨x, y, z, hx, hy, hz, h6⟩
      · omega
      · have ex : s[i] = x := by rw [getElem?_pos s i (by omega)] at hx; exact Option.some.inj hx
        have ey : s[i + 1] = y := by rw [getElem?_pos s (i + 1) (by omega)] at hy; exact Option.some.inj hy
        have ez : s[i + 2] = z := by rw [getElem?_pos s (i + 2) h5] at hz; exact Option.some.inj hz
        rw [cons3 s i h5, ex, ey, ez]
        refine item_lit2 _ _ _ _ ?_
        rcases h6 with h6 | h6 | h6
        · exact Or.inl (byte_of (by decide) h6)
        · exact Or.inr (Or.inl fun e => h6 (by rw [e]; rfl))
        · exact Or.inr (Or.inr (byte_of (by decide) h6))
    · refine item_lit1 _ ?_
      have e1 : s.size = s.data.toList.length := by simp
      rw [List.length_drop]
      omega
  unfold itL itH itN litB litN
  rw [key.1, key.2.1, key.2.2]
  exact ⟨rfl, rfl, rfl⟩

set_option maxHeartbeats 400000 in
theorem item_any (s : ByteArray) (w : World) (hs : s.size ≤ maxLen) (h0 : 0 < s.size) :
    Calls Tryd.prog 34 #[.string s] w fun e w' => e = .returned (.tuple #[.int .u8 (itL (s.data.toList.drop 0)), .int .u8 (itH (s.data.toList.drop 0)), .int .i64 (itN (s.data.toList.drop 0))]) ∧ ∃ n, w' = w.drewN n := by
  unfold maxLen at hs
  by_cases h2 : 2 < s.size
  · by_cases hr : ¬ (s[(0 : Nat)].toNat : Int) = 92 ∧ (s[(1 : Nat)].toNat : Int) = 45 ∧ ¬ (s[(2 : Nat)].toNat : Int) = 93
    · obtain ⟨r1, r2, r3⟩ := hr
      have hn := Lib.hid (it_range s 0 h2 r1 r2 r3)
      have r1' : ((s[(0 : Nat)].toNat : Int) != 92) = true := by simpa using r1
      have r3' : ((s[(2 : Nat)].toNat : Int) != 93) = true := by simpa using r3
      go_enter Tryd.func34, Tryd.ntmps34
      go_wp2_with fail
      go_ways
      go_region
      all_goals (go_wp2; go_ret3; exact ⟨ret_bbn hn.out, _, rfl⟩)
    · have hn := Lib.hid (it_lit s 0 (Or.inr ⟨_, _, _, getElem?_pos s 0 (by omega), getElem?_pos s 1 (by omega), getElem?_pos s 2 h2, by omega⟩))
      have hr' : (s[(0 : Nat)].toNat : Int) = 92 ∨ ¬ (s[(1 : Nat)].toNat : Int) = 45 ∨ (s[(2 : Nat)].toNat : Int) = 93 := by omega
      go_enter Tryd.func34, Tryd.ntmps34
      go_wp2_with (go_at_call 22; refine (lit_any s _ (by unfold maxLen; omega) h0).mono ?_; rintro e w' ⟨rfl, rfl⟩)
      all_goals first
        | (go_ret3; exact ⟨ret_bbn hn.out, 0, rfl⟩)
        | (exfalso
           have hx : ((s[(0 : Nat)].toNat : Int) != 92) = true ∧ ((s[(2 : Nat)].toNat : Int) != 93) = true := by assumption
           simp only [bne_iff_ne, ne_eq] at hx
           omega)
  · have hn := Lib.hid (it_lit s 0 (Or.inl (by omega)))
    go_enter Tryd.func34, Tryd.ntmps34
    go_wp2_with (go_at_call 22; refine (lit_any s _ (by unfold maxLen; omega) h0).mono ?_; rintro e w' ⟨rfl, rfl⟩)
    all_goals go_ret3
    all_goals exact ⟨ret_bbn hn.out, 0, rfl⟩

end Go.Proofs.YtadihlmpkckakaaDoor
