/-
  The walk of the document's own items. A premise: texts no longer than 65536 bytes.
-/
import Derived.Test.YtadihlmpkckakaaDoorWalksC
import Derived.IntWalk
namespace Go.Proofs.YtadihlmpkckakaaDoor
open Go.RowKit Gl

def ItemEnd (s : ByteArray) (i : Nat) (w : World) (e : Ending) (w' : World) : Prop :=
  e = .returned (.tuple #[.int .u8 (itL (s.data.toList.drop i)), .int .u8 (itH (s.data.toList.drop i)), .int .i64 ((i : Int) + itN (s.data.toList.drop i))]) ∧ ∃ n, w' = w.drewN n
theorem itemEnd {s : ByteArray} {i : Nat} {w w' : World} {a b c : Int} (hw : ∃ n, w' = w.drewN n) (h : itL (s.data.toList.drop i) = a ∧ itH (s.data.toList.drop i) = b ∧ itN (s.data.toList.drop i) = c) :
    ItemEnd s i w (.returned (.tuple #[.int .u8 a, .int .u8 b, .int .i64 ((i : Int) + c)])) w' := by
  obtain ⟨rfl, rfl, rfl⟩ := h
  exact ⟨rfl, hw⟩

set_option maxHeartbeats 1000000 in
theorem ritem_esc (s : ByteArray) (i : Nat) (w : World) (hs : s.size ≤ 65536) (h : i + 1 < s.size) (h92 : ((s[i].toNat : Int) == 92) = true) (hn : Hid (itL (s.data.toList.drop i) = (s[i + 1].toNat : Int) ∧ itH (s.data.toList.drop i) = (s[i + 1].toNat : Int) ∧ itN (s.data.toList.drop i) = 2)) :
    Calls Tryd.prog 38 #[.string s, .int .i64 i] w (ItemEnd s i w) := by
  go_enter Tryd.func38, Tryd.ntmps38
  go_wp2_with fail
  have b1 : (i : Int) + 1 < s.size := by omega
  have z1 : 0 ≤ (i : Int) + 1 := by omega
  have w1 : IntKind.i64.wrap ((i : Int) + 1) = (i : Int) + 1 := IntWalk.i64_in _ (by omega)
  have w2 : IntKind.i64.wrap ((i : Int) + 2) = (i : Int) + 2 := IntWalk.i64_in _ (by omega)
  have t1 : ((i : Int) + 1).toNat = i + 1 := by omega
  go_quiet (fail)
  clear w1 w2
  go_wp2_with fail
  go_ret3
  exact itemEnd ⟨_, rfl⟩ hn.out
set_option maxHeartbeats 1000000 in
theorem ritem_range (s : ByteArray) (i : Nat) (w : World) (hs : s.size ≤ 65536) (h : i + 2 < s.size) (h92 : ((s[i].toNat : Int) == 92) = false) (h45 : ((s[i + 1].toNat : Int) == 45) = true) (h93 : ((s[i + 2].toNat : Int) != 93) = true)
    (hn : Hid (itL (s.data.toList.drop i) = min (s[i].toNat : Int) (s[i + 2].toNat : Int) ∧ itH (s.data.toList.drop i) = max (s[i].toNat : Int) (s[i + 2].toNat : Int) ∧ itN (s.data.toList.drop i) = 3)) :
    Calls Tryd.prog 38 #[.string s, .int .i64 i] w (ItemEnd s i w) := by
  by_cases hlt : (s[i].toNat : Int) < (s[i + 2].toNat : Int)
  · have hd : decide ((s[i].toNat : Int) < (s[i + 2].toNat : Int)) = true := by simpa using hlt
    have hm : min (s[i].toNat : Int) (s[i + 2].toNat : Int) = (s[i].toNat : Int) ∧ max (s[i].toNat : Int) (s[i + 2].toNat : Int) = (s[i + 2].toNat : Int) := ⟨by omega, by omega⟩
    have hn' := Lib.hid hn.out
    rw [hm.1, hm.2] at hn'
    clear hm hn
    go_enter Tryd.func38, Tryd.ntmps38
    go_wp2_with fail
    go_quiet (fail)
    go_wp2_with fail
    go_quiet (fail)
    go_wp2_with fail
    go_ret3
    exact itemEnd ⟨_, World.drewN_drewN _ _ _⟩ hn'.out
  · have hd : decide ((s[i].toNat : Int) < (s[i + 2].toNat : Int)) = false := by simpa using hlt
    have hm : min (s[i].toNat : Int) (s[i + 2].toNat : Int) = (s[i + 2].toNat : Int) ∧ max (s[i].toNat : Int) (s[i + 2].toNat : Int) = (s[i].toNat : Int) := ⟨by omega, by omega⟩
    have hn' := Lib.hid hn.out
    rw [hm.1, hm.2] at hn'
    clear hm hn
    go_enter Tryd.func38, Tryd.ntmps38
    go_wp2_with fail
    go_quiet (fail)
    go_wp2_with fail
    go_quiet (fail)
    go_wp2_with fail
    go_ret3
    exact itemEnd ⟨_, World.drewN_drewN _ _ _⟩ hn'.out

set_option maxHeartbeats 1000000 in
theorem ritem_plain (s : ByteArray) (i : Nat) (w : World) (hs : s.size ≤ 65536) (h : i < s.size) (h1 : ¬ (s[i].toNat : Int) = 92 ∨ s.size ≤ i + 1)
    (h2 : s.size ≤ i + 2 ∨ ∃ x y : UInt8, s[i + 1]? = some x ∧ s[i + 2]? = some y ∧ (¬ (x.toNat : Int) = 45 ∨ (y.toNat : Int) = 93)) :
    Calls Tryd.prog 38 #[.string s, .int .i64 i] w (ItemEnd s i w) := by
  have hn := Lib.hid (it_plain s i h h1 h2)
  by_cases h3 : i + 2 < s.size
  · have h92 : ((s[i].toNat : Int) == 92) = false := by
      rcases h1 with h1 | h1
      · simpa using h1
      · omega
    by_cases h4 : (s[i + 1].toNat : Int) = 45
    · have h45 : ((s[i + 1].toNat : Int) == 45) = true := by simpa using h4
      have h93 : ((s[i + 2].toNat : Int) != 93) = false := by
        rcases h2 with h2 | ⟨x, y, hx, hy, h5⟩
        · omega
        · have ex : s[i + 1] = x := by rw [getElem?_pos s (i + 1) (by omega)] at hx; exact Option.some.inj hx
          have ey : s[i + 2] = y := by rw [getElem?_pos s (i + 2) h3] at hy; exact Option.some.inj hy
          subst ex ey
          rcases h5 with h5 | h5
          · exact absurd h4 h5
          · simpa using h5
      clear h1 h2 h4
      go_enter Tryd.func38, Tryd.ntmps38
      go_wp2_with fail
      go_quiet (fail)
      go_wp2_with fail
      go_ret3
      exact itemEnd ⟨_, rfl⟩ hn.out
    · have h45 : ((s[i + 1].toNat : Int) == 45) = false := by simpa using h4
      clear h1 h2 h4
      go_enter Tryd.func38, Tryd.ntmps38
      go_wp2_with fail
      go_quiet (fail)
      go_wp2_with fail
      go_ret3
      exact itemEnd ⟨_, rfl⟩ hn.out
  · by_cases h4 : (s[i].toNat : Int) = 92
    · have h92 : ((s[i].toNat : Int) == 92) = true := by simpa using h4
      have h5 : s.size ≤ i + 1 := by
        rcases h1 with h1 | h1
        · exact absurd h4 h1
        · exact h1
      clear h1 h2 h4
      go_enter Tryd.func38, Tryd.ntmps38
      go_wp2_with fail
      go_quiet (fail)
      go_wp2_with fail
      go_ret3
      exact itemEnd ⟨_, rfl⟩ hn.out
    · have h92 : ((s[i].toNat : Int) == 92) = false := by simpa using h4
      clear h1 h2 h4
      go_enter Tryd.func38, Tryd.ntmps38
      go_wp2_with fail
      go_quiet (fail)
      go_wp2_with fail
      go_ret3
      exact itemEnd ⟨_, rfl⟩ hn.out
theorem ritem_any (s : ByteArray) (i : Nat) (w : World) (hs : s.size ≤ 65536) (h : i < s.size) : Calls Tryd.prog 38 #[.string s, .int .i64 i] w (ItemEnd s i w) := by
  by_cases h1 : (s[i].toNat : Int) = 92
  · by_cases h2 : i + 1 < s.size
    · exact ritem_esc s i w hs h2 (by simpa using h1) (Lib.hid (it_esc s i h2 h1))
    · exact ritem_plain s i w hs h (Or.inr (by omega)) (Or.inl (by omega))
  · by_cases h2 : i + 2 < s.size
    · by_cases h3 : (s[i + 1].toNat : Int) = 45 ∧ ¬ (s[i + 2].toNat : Int) = 93
      · exact ritem_range s i w hs h2 (by simpa using h1) (by simpa using h3.1) (by simpa using h3.2) (Lib.hid (it_range s i h2 h1 h3.1 h3.2))
      · refine ritem_plain s i w hs h (Or.inl h1) (Or.inr ⟨_, _, getElem?_pos s (i + 1) (by omega), getElem?_pos s (i + 2) h2, ?_⟩)
        by_cases h4 : (s[i + 1].toNat : Int) = 45
        · exact Or.inr (Classical.byContradiction fun h5 => h3 ⟨h4, h5⟩)
        · exact Or.inl h4
    · exact ritem_plain s i w hs h (Or.inl h1) (Or.inl (by omega))

end Go.Proofs.YtadihlmpkckakaaDoor
