/-
  What a turn tells of the document's table; the walk of the document's Turn. A table's shape; a cursor's bound.
-/
import Derived.Test.YtdldgiicblmknaaDoorZD
import Derived.Test.YtdldgiicblmknaaDoorSG
import Derived.Test.YtdldgiicblmknaaDoorZB
import Derived.Test.YtdldgiicblmknaaDoorSH

namespace Go.Proofs.YtdldgiicblmknaaDoor
open Go.RowKit

/-- The size by which a table is gone through; what a turn tells. -/
def tSK (t : KT) : Nat := if t.moved < 0 then t.old.length.log2 else (min t.old.length t.new.length).log2
def tRK (t : KT) (c : Nat) : List ByteArray :=
  if t.moved < 0 then t.old.getD (c % pw (tSK t)) []
  else if t.old.length < t.new.length then t.old.getD (c % pw (tSK t)) [] ++ (t.new.getD (c % pw (tSK t)) [] ++ t.new.getD (c % pw (tSK t) + pw (tSK t)) [])
  else t.new.getD (c % pw (tSK t)) [] ++ (t.old.getD (c % pw (tSK t)) [] ++ t.old.getD (c % pw (tSK t) + pw (tSK t)) [])
def ParK (t : KT) : Prop := 0 ≤ t.moved → t.new.length = 2 * t.old.length ∨ t.old.length = 2 * t.new.length
theorem shapeK {t : KT} (hk : KOk t) (hP : ParK t) : tSK t ≤ 16 ∧
    ((t.moved < 0 ∧ t.old.length = pw (tSK t) ∧ ∀ c, tRK t c = t.old.getD (c % pw (tSK t)) []) ∨
     (0 ≤ t.moved ∧ t.old.length = pw (tSK t) ∧ t.new.length = pw (tSK t + 1) ∧ tSK t + 1 ≤ 16 ∧ ∀ c, tRK t c = t.old.getD (c % pw (tSK t)) [] ++ (t.new.getD (c % pw (tSK t)) [] ++ t.new.getD (c % pw (tSK t) + pw (tSK t)) [])) ∨
     (0 ≤ t.moved ∧ t.new.length = pw (tSK t) ∧ t.old.length = pw (tSK t + 1) ∧ tSK t + 1 ≤ 16 ∧ ∀ c, tRK t c = t.new.getD (c % pw (tSK t)) [] ++ (t.old.getD (c % pw (tSK t)) [] ++ t.old.getD (c % pw (tSK t) + pw (tSK t)) []))) := by
  obtain ⟨k0, h20, h160, c0⟩ := hk.s0
  by_cases hm : t.moved < 0
  · have hS : tSK t = k0 := by unfold tSK; rw [if_pos hm, c0, log_pw]
    refine ⟨by omega, Or.inl ⟨hm, by rw [hS]; exact c0, fun c => ?_⟩⟩
    unfold tRK
    rw [if_pos hm]
  · rcases hk.s1 with ⟨h1, _⟩ | ⟨hm0, _, k1, h21, h161, c1⟩
    · omega
    have p0 := pw_pos k0
    have p1 := pw_pos k1
    rcases hP hm0 with h | h
    · have hlt : t.old.length < t.new.length := by omega
      have hS : tSK t = k0 := by unfold tSK; rw [if_neg hm, Nat.min_eq_left (by omega), c0, log_pw]
      have hkk : k1 = k0 + 1 := pw_inj (by rw [← c1, h, c0, pw_succ])
      refine ⟨by omega, Or.inr (Or.inl ⟨hm0, by rw [hS]; exact c0, by rw [hS, ← hkk]; exact c1, by omega, fun c => ?_⟩)⟩
      unfold tRK
      rw [if_neg hm, if_pos hlt]
    · have hlt : t.new.length < t.old.length := by omega
      have hS : tSK t = k1 := by unfold tSK; rw [if_neg hm, Nat.min_eq_right (by omega), c1, log_pw]
      have hkk : k0 = k1 + 1 := pw_inj (by rw [← c0, h, c1, pw_succ])
      refine ⟨by omega, Or.inr (Or.inr ⟨hm0, by rw [hS]; exact c1, by rw [hS, ← hkk]; exact c0, by omega, fun c => ?_⟩)⟩
      unfold tRK
      rw [if_neg hm, if_neg (by omega)]
theorem rnext_at (c s : Nat) (hc : c < 18446744073709551616) (hs : s ≤ 16) (w : World) : Calls Tryd.prog 36 #[.int .u64 c, .int .i64 s] w fun e w' => e = .returned (.int .u64 ((nxt s c : Nat) : Int)) ∧ w = w' := by
  have := rnext_any c s hc w
  rwa [szN_nat hs] at this
theorem rplace_at (c s : Nat) (hc : c < 18446744073709551616) (hs : s ≤ 16) (w : World) : Calls Tryd.prog 38 #[.int .u64 c, .int .i64 s] w fun e w' => e = .returned (.int .i64 ((c % pw s : Nat) : Int)) ∧ w = w' := by
  have := rplace_any c s hc w
  rwa [szN_nat hs] at this
theorem rplaces_at (s : Nat) (hs : s ≤ 16) (w : World) : Calls Tryd.prog 40 #[.int .i64 s] w fun e w' => e = .returned (.int .u64 ((pw s : Nat) : Int)) ∧ w = w' := by
  have := rplaces_any s w
  rwa [szN_nat hs] at this
variable {B T : Nat} {t : KT} {vo vn : Value} {w : World}

set_option maxHeartbeats 2000000 in
theorem rturn_at (h : RAt B T t vo vn w) (hk : KOk t) (hP : ParK t) (c : Nat) (hc : c < 18446744073709551616) :
    Calls Tryd.prog 14 #[.pointer (some ⟨T, 0, none⟩), .int .u64 c] w fun r w' => ∃ v', r = .returned (.tuple #[.int .u64 ((nxt (tSK t) c : Nat) : Int), v']) ∧ RowT w' w.heap.size v' (tRK t c) ∧ Below w.heap.size w w' := by
  obtain ⟨hs16, hsh⟩ := shapeK hk hP
  have hnx := Lib.hid (fun w => rnext_at c (tSK t) hc hs16 w)
  have hpl := Lib.hid (fun w => rplace_at c (tSK t) hc hs16 w)
  have hpcs := Lib.hid (fun w => rplaces_at (tSK t) hs16 w)
  have hH := Lib.hid h
  obtain ⟨c0, c1, c2, c3, cf⟩ := h.cells
  obtain ⟨Ao, cpo, hvo⟩ := h.old.len
  obtain ⟨An, cpn, hvn⟩ := h.new.len
  subst hvo hvn
  have hch : Hid (∀ w1, Below w.heap.size w w1 → ∀ (b : Bool) (n : Nat), Calls Tryd.prog 37 #[.pointer (some ⟨T, 0, none⟩), .bool b, .int .i64 n] w1 fun r w' => ∃ v', r = .returned v' ∧ RowT w' w1.heap.size v' ((if b then t.old else t.new).getD n []) ∧ Below w1.heap.size w1 w') := Lib.hid fun w1 hb b n => chain_ref (hH.out.after hb) hk b n
  have hlo : Hid (∀ n, (t.old.getD n []).length ≤ 1000000) := Lib.hid fun n => by
    rw [List.getD_eq_getElem?_getD]
    cases hc : t.old[n]? with
    | none => simp
    | some c => have := mem_flat_len (List.mem_of_getElem? hc); have := hk.ct; show c.length ≤ _; omega
  have hln : Hid (∀ n, (t.new.getD n []).length ≤ 1000000) := Lib.hid fun n => by
    rw [List.getD_eq_getElem?_getD]
    cases hc : t.new[n]? with
    | none => simp
    | some c => have := mem_flat_len (List.mem_of_getElem? hc); have := hk.ct; show c.length ≤ _; omega
  generalize tSK t = s at *
  rcases hsh with ⟨hm, h1, hL⟩ | ⟨hm, h1, h2, h3, hL⟩ | ⟨hm, h1, h2, h3, hL⟩
  · have hsz := Lib.hid (size_ref h s hs16 h1)
    rw [hL]
    clear hL
    generalize c % pw s = p at *
    have hc0 := hch.out w (Below.refl _ _) true p
    simp only [if_true] at hc0
    have hc0H := Lib.hid hc0
    have hdm : decide (t.moved < 0) = true := by simpa using hm
    clear h hc0 hP hk h1 c0 c1 c2 cf
    go_enter Tryd.func14, Tryd.ntmps14
    go_wp2_with (first
      | (go_at_call 35; ((with_reducible refine (hsz.out).mono ?_); rintro e w' ⟨rfl, rfl⟩))
      | (go_at_call 36; ((with_reducible refine (hnx.out _).mono ?_); rintro e w' ⟨rfl, rfl⟩))
      | (go_at_call 38; ((with_reducible refine (hpl.out _).mono ?_); rintro e w' ⟨rfl, rfl⟩))
      | (go_at_call 37; ((with_reducible refine (hc0H.out).mono ?_); rintro e w3 ⟨v3, rfl, how3, hb3⟩)))
    go_ret2
    exact ⟨v3, rfl, how3, hb3⟩
  · have hsz := Lib.hid (size_ref h s (by omega) h1)
    have hlg := Lib.hid (fun w => log8_any (s + 1) (by omega) w)
    rw [h2] at c2
    rw [hL]
    have hpb := Nat.mod_lt c (pw_pos s)
    have hps := pw_le hs16
    clear hL
    generalize hpc : c % pw s = p at *
    have hadd : ((p : Int) + ((pw s : Nat) : Int)) = ((p + pw s : Nat) : Int) := by omega
    have hdm : decide (t.moved < 0) = false := by simp; omega
    have hdl : decide ((s : Int) < (s : Int) + 1) = true := by simp; omega
    generalize hq : p + pw s = q at *
    generalize hNP : pw (s + 1) = NP at *
    have hx1 := Lib.hid hq
    have hx2 := Lib.hid hNP
    have hx3 := Lib.hid hpc
    clear h hP hk h1 h2 c0 c1 cf hpc hq hNP
    go_enter Tryd.func14, Tryd.ntmps14
    go_upto_region 11 with (first
      | (go_at_call 35; ((with_reducible refine (hsz.out).mono ?_); rintro e w' ⟨rfl, rfl⟩))
      | (go_at_call 39; ((with_reducible refine (hlg.out _).mono ?_); rintro e w' ⟨rfl, rfl⟩))
      | (go_at_call 38; ((with_reducible refine (hpl.out _).mono ?_); rintro e w' ⟨rfl, rfl⟩)))
    have hc0 := hch.out w (Below.refl _ _) true p
    simp only [if_true] at hc0
    have hc0H := Lib.hid hc0
    clear hc0 c2 c3
    go_upto_region 12 with (first
      | (go_at_call 37; ((with_reducible refine (hc0H.out).mono ?_); rintro e w1 ⟨v1, rfl, how1, hb1⟩))
      | (at_builtin; refine wpList_append_rowT rfl (.tmp 42) (.tmp 46) rfl w.heap.size w.heap.size (.slice none 0 0) v1 [] _ rfl rfl (rowT_nil _ _) how1 (by have := hlo.out p; have := hln.out p; simp only [List.length_nil]; omega) hb1.size ?happ1))
    case happ1 =>
      intro v2 w2 how2 ho2 hv2
      try rw [List.nil_append] at how2
      have hb12 : Below w.heap.size w w2 := hb1.trans (ho2.below (by have := hb1.size; omega) (by simp [Value.ownBlock]))
      have hc1 := hch.out w2 hb12 false p
      simp only [Bool.false_eq_true, if_false] at hc1
      have hc1H := Lib.hid hc1
      have how2H := Lib.hid how2
      have hb12H := Lib.hid hb12
      clear hc1 how2 hb12 ho2 hv2 how1 hb1
      go_upto_region 13 with (first
        | (go_at_call 37; ((with_reducible refine (hc1H.out).mono ?_); rintro e w3 ⟨v3, rfl, how3, hb3⟩))
        | (at_builtin; refine wpList_append_rowT rfl (.tmp 48) (.tmp 53) rfl w.heap.size w2.heap.size v2 v3 _ _ rfl rfl (how2H.out.stay hb3) how3 (by have := hlo.out p; have := hln.out p; first | omega | (simp only [List.getD_eq_getElem?_getD] at *; omega)) (by have := hb12H.out.size; have := hb3.size; omega) ?happ2))
      case happ2 =>
        intro v4 w4 how4 ho4 hv4
        have hb13 : Below w.heap.size w w3 := onB hb12H.out hb3 hb12H.out.size
        have hb14 : Below w.heap.size w w4 := hb13.trans (ho4.below hb13.size (fun k hk => (how2H.out.lt k (by simpa using hk)).1))
        have hc2 := hch.out w4 hb14 false q
        simp only [Bool.false_eq_true, if_false] at hc2
        have hc2H := Lib.hid hc2
        have how4H := Lib.hid how4
        have hb14H := Lib.hid hb14
        clear hc2 how4 hb14 ho4 hv4 how3 hb3 hb13
        go_wp2_with (first
          | (go_at_call 40; ((with_reducible refine (hpcs.out _).mono ?_); rintro e w' ⟨rfl, rfl⟩))
          | (go_at_call 37; ((with_reducible refine (hc2H.out).mono ?_); rintro e w5 ⟨v5, rfl, how5, hb5⟩))
          | (at_builtin; refine wpList_append_rowT rfl (.tmp 55) (.tmp 64) rfl w.heap.size w4.heap.size v4 v5 _ _ rfl rfl (how4H.out.stay hb5) how5 (by rw [List.length_append]; have := hlo.out p; have := hln.out p; have := hlo.out q; have := hln.out q; simp only [List.getD_eq_getElem?_getD] at *; omega) (by have := hb14H.out.size; have := hb5.size; omega) ?happ3))
        case happ3 =>
          intro v6 w6 how6 ho6 hv6
          have hb15 : Below w.heap.size w w5 := onB hb14H.out hb5 hb14H.out.size
          have hb16 := Lib.hid (hb15.trans (ho6.below hb15.size (fun k hk => (how4H.out.lt k (by simpa using hk)).1)))
          have how6H := Lib.hid how6
          clear how6 ho6 hv6 how5 hb5 hb15
          go_wp2_with (go_at_call 36; ((with_reducible refine (hnx.out _).mono ?_); rintro e w' ⟨rfl, rfl⟩))
          go_ret2
          exact ⟨v6, rfl, by simpa [List.append_assoc, List.getD_eq_getElem?_getD] using how6H.out, hb16.out⟩
  · have hsz := Lib.hid (size_ref h (s + 1) (by omega) h2)
    have hlg := Lib.hid (fun w => log8_any s (by omega) w)
    rw [h1] at c2
    rw [hL]
    have hpb := Nat.mod_lt c (pw_pos s)
    have hps := pw_le hs16
    clear hL
    generalize hpc : c % pw s = p at *
    have hadd : ((p : Int) + ((pw s : Nat) : Int)) = ((p + pw s : Nat) : Int) := by omega
    have hdm : decide (t.moved < 0) = false := by simp; omega
    have hdl : decide ((s : Int) + 1 < (s : Int)) = false := by simp; omega
    generalize hq : p + pw s = q at *
    generalize hNP : pw s = NP at *
    have hx1 := Lib.hid hq
    have hx2 := Lib.hid hNP
    have hx3 := Lib.hid hpc
    clear h hP hk h1 h2 c0 c1 cf hpc hq hNP
    go_enter Tryd.func14, Tryd.ntmps14
    go_upto_region 11 with (first
      | (go_at_call 35; ((with_reducible refine (hsz.out).mono ?_); rintro e w' ⟨rfl, rfl⟩))
      | (go_at_call 39; ((with_reducible refine (hlg.out _).mono ?_); rintro e w' ⟨rfl, rfl⟩))
      | (go_at_call 38; ((with_reducible refine (hpl.out _).mono ?_); rintro e w' ⟨rfl, rfl⟩)))
    have hc0 := hch.out w (Below.refl _ _) false p
    simp only [Bool.false_eq_true, if_false] at hc0
    have hc0H := Lib.hid hc0
    clear hc0 c2 c3
    go_upto_region 12 with (first
      | (go_at_call 37; ((with_reducible refine (hc0H.out).mono ?_); rintro e w1 ⟨v1, rfl, how1, hb1⟩))
      | (at_builtin; refine wpList_append_rowT rfl (.tmp 42) (.tmp 46) rfl w.heap.size w.heap.size (.slice none 0 0) v1 [] _ rfl rfl (rowT_nil _ _) how1 (by have := hlo.out p; have := hln.out p; simp only [List.length_nil]; omega) hb1.size ?happ1))
    case happ1 =>
      intro v2 w2 how2 ho2 hv2
      try rw [List.nil_append] at how2
      have hb12 : Below w.heap.size w w2 := hb1.trans (ho2.below (by have := hb1.size; omega) (by simp [Value.ownBlock]))
      have hc1 := hch.out w2 hb12 true p
      simp only [if_true] at hc1
      have hc1H := Lib.hid hc1
      have how2H := Lib.hid how2
      have hb12H := Lib.hid hb12
      clear hc1 how2 hb12 ho2 hv2 how1 hb1
      go_upto_region 13 with (first
        | (go_at_call 37; ((with_reducible refine (hc1H.out).mono ?_); rintro e w3 ⟨v3, rfl, how3, hb3⟩))
        | (at_builtin; refine wpList_append_rowT rfl (.tmp 48) (.tmp 53) rfl w.heap.size w2.heap.size v2 v3 _ _ rfl rfl (how2H.out.stay hb3) how3 (by have := hlo.out p; have := hln.out p; first | omega | (simp only [List.getD_eq_getElem?_getD] at *; omega)) (by have := hb12H.out.size; have := hb3.size; omega) ?happ2))
      case happ2 =>
        intro v4 w4 how4 ho4 hv4
        have hb13 : Below w.heap.size w w3 := onB hb12H.out hb3 hb12H.out.size
        have hb14 : Below w.heap.size w w4 := hb13.trans (ho4.below hb13.size (fun k hk => (how2H.out.lt k (by simpa using hk)).1))
        have hc2 := hch.out w4 hb14 true q
        simp only [if_true] at hc2
        have hc2H := Lib.hid hc2
        have how4H := Lib.hid how4
        have hb14H := Lib.hid hb14
        clear hc2 how4 hb14 ho4 hv4 how3 hb3 hb13
        go_wp2_with (first
          | (go_at_call 40; ((with_reducible refine (hpcs.out _).mono ?_); rintro e w' ⟨rfl, rfl⟩))
          | (go_at_call 37; ((with_reducible refine (hc2H.out).mono ?_); rintro e w5 ⟨v5, rfl, how5, hb5⟩))
          | (at_builtin; refine wpList_append_rowT rfl (.tmp 55) (.tmp 64) rfl w.heap.size w4.heap.size v4 v5 _ _ rfl rfl (how4H.out.stay hb5) how5 (by rw [List.length_append]; have := hlo.out p; have := hln.out p; have := hlo.out q; have := hln.out q; simp only [List.getD_eq_getElem?_getD] at *; omega) (by have := hb14H.out.size; have := hb5.size; omega) ?happ3))
        case happ3 =>
          intro v6 w6 how6 ho6 hv6
          have hb15 : Below w.heap.size w w5 := onB hb14H.out hb5 hb14H.out.size
          have hb16 := Lib.hid (hb15.trans (ho6.below hb15.size (fun k hk => (how4H.out.lt k (by simpa using hk)).1)))
          have how6H := Lib.hid how6
          clear how6 ho6 hv6 how5 hb5 hb15
          go_wp2_with (go_at_call 36; ((with_reducible refine (hnx.out _).mono ?_); rintro e w' ⟨rfl, rfl⟩))
          go_ret2
          exact ⟨v6, rfl, by simpa [List.append_assoc, List.getD_eq_getElem?_getD] using how6H.out, hb16.out⟩

end Go.Proofs.YtdldgiicblmknaaDoor

/-
  The program's table and the document's: what always holds, what a turn tells, what an op makes. Mathematics; no condition.
-/
namespace Go.Proofs.YtdldgiicblmknaaDoor
open Go.RowKit

/-- A program's table as the document's. -/
def KX_ (X : Tb) : KT := kt (er X)
def keysX (l : List (List En)) : List (List ByteArray) := l.map kys
theorem keysE_bare (l : List (List En)) : keysE (bare l) = keysX l := by
  unfold keysE bare keysX kys
  rw [List.map_map]
  apply List.map_congr_left
  intro c _
  simp
theorem keysX_getD (l : List (List En)) (i : Nat) : (keysX l).getD i [] = kys (l.getD i []) := by
  unfold keysX
  rw [List.getD_eq_getElem?_getD, List.getElem?_map, List.getD_eq_getElem?_getD]
  cases l[i]? <;> rfl
theorem keysX_len (l : List (List En)) : (keysX l).length = l.length := by simp [keysX]
theorem keysX_flat (l : List (List En)) : (keysX l).flatten = kys l.flatten := by unfold keysX kys; rw [List.map_flatten]
theorem KX_old (X : Tb) : (KX_ X).old = keysX (openL X) := keysE_bare _
theorem KX_new (X : Tb) : (KX_ X).new = keysX X.new := keysE_bare _
theorem KX_seed (X : Tb) : (KX_ X).seed = X.seed := rfl
theorem KX_moved (X : Tb) : (KX_ X).moved = if X.new = [] then -1 else (X.moved : Int) := rfl
theorem open_flat (X : Tb) : (openL X).flatten = X.old.flatten := by
  unfold openL
  split
  · next hh => rw [hh.2]; simp
  · rfl
theorem KX_flat {X : Tb} (hI : Inv X) : (KX_ X).old.flatten ++ (KX_ X).new.flatten = kys X.ents := by
  rw [KX_old, KX_new, keysX_flat, keysX_flat, open_flat]
  unfold Tb.ents
  rw [hI.ext, List.append_nil]
  unfold kys
  rw [List.map_append]
theorem open_pw {X : Tb} (hI : Inv X) : ∃ k, 2 ≤ k ∧ k ≤ 16 ∧ (openL X).length = pw k := by
  obtain ⟨k, hk⟩ := hI.good.s0
  rw [openL_len]
  unfold openLen
  split
  · exact ⟨2, by omega, by omega, rfl⟩
  · next hno =>
    rcases hk with ⟨h1, _⟩ | ⟨h2, h3, h4⟩
    · have ho : X.old = [] := List.length_eq_zero_iff.1 h1
      by_cases hn : X.new = []
      · exact absurd ⟨hn, ho⟩ hno
      · have := hI.good.mv hn; omega
    · exact ⟨k, h2, h3, h4⟩
theorem KX_ok {X : Tb} (hI : Inv X) : KOk (KX_ X) := by
  obtain ⟨k, hk2, hk16, hl⟩ := open_pw hI
  refine ⟨hI.good.seed, ⟨k, hk2, hk16, by rw [KX_old, keysX_len]; exact hl⟩, ?_, ⟨fun c hc x hx => ?_, fun c hc x hx => ?_⟩, ?_⟩
  · rw [KX_moved, KX_new, KX_old, keysX_len]
    by_cases hn : X.new = []
    · left
      rw [if_pos hn, hn]
      exact ⟨rfl, rfl⟩
    · right
      have hmv := hI.good.mv hn
      have ho : X.old ≠ [] := fun hh => by rw [hh] at hmv; simp at hmv
      rw [if_neg hn, openL_of ho]
      refine ⟨by omega, by omega, ?_⟩
      obtain ⟨k1, hk1⟩ := hI.good.s1
      rcases hk1 with ⟨h1, _⟩ | ⟨h2, h3, h4⟩
      · exact absurd (List.length_eq_zero_iff.1 h1) hn
      · exact ⟨k1, h2, h3, by rw [keysX_len]; exact h4⟩
  · rw [KX_old] at hc
    have hm : x ∈ (keysX (openL X)).flatten := List.mem_flatten.2 ⟨c, hc, hx⟩
    rw [keysX_flat, open_flat] at hm
    obtain ⟨e, he, rfl⟩ := List.mem_map.1 hm
    exact hI.good.ks e (by unfold Tb.ents; exact List.mem_append_left _ he)
  · rw [KX_new] at hc
    have hm : x ∈ (keysX X.new).flatten := List.mem_flatten.2 ⟨c, hc, hx⟩
    rw [keysX_flat] at hm
    obtain ⟨e, he, rfl⟩ := List.mem_map.1 hm
    exact hI.good.ks e (by unfold Tb.ents; exact List.mem_append_right _ (List.mem_append_left _ he))
  · have h1 := congrArg List.length (KX_flat hI)
    rw [List.length_append, kys_len, ← hI.cnt] at h1
    have := hI.good.ct
    omega
theorem KX_par {X : Tb} (hI : Inv X) (hP : Par X) : ParK (KX_ X) := by
  intro hm
  rw [KX_moved] at hm
  by_cases hn : X.new = []
  · rw [if_pos hn] at hm; omega
  · have hmv := hI.good.mv hn
    have ho : X.old ≠ [] := fun hh => by rw [hh] at hmv; simp at hmv
    rw [KX_old, KX_new, keysX_len, keysX_len, openL_of ho]
    exact hP hn
theorem KX_nodup {X : Tb} (hI : Inv X) : (∀ c ∈ (KX_ X).old, c.Nodup) ∧ ∀ c ∈ (KX_ X).new, c.Nodup := by
  have hnd : ((KX_ X).old.flatten ++ (KX_ X).new.flatten).Nodup := by rw [KX_flat hI]; exact hI.nd
  obtain ⟨h1, h2, _⟩ := List.nodup_append.1 hnd
  have key : ∀ (l : List (List ByteArray)), l.flatten.Nodup → ∀ c ∈ l, c.Nodup := by
    intro l
    induction l with
    | nil => intro _ c hc; cases hc
    | cons a l ih =>
      intro h c hc
      rw [List.flatten_cons] at h
      obtain ⟨q1, q2, _⟩ := List.nodup_append.1 h
      rcases List.mem_cons.1 hc with rfl | hc
      · exact q1
      · exact ih q2 c hc
  exact ⟨key _ h1, key _ h2⟩
/-- A turn tells the same. -/
theorem KX_turn {X : Tb} (hI : Inv X) : tSK (KX_ X) = tS X ∧ ∀ c, tRK (KX_ X) c = tK X c := by
  have hS : tSK (KX_ X) = tS X := by
    unfold tSK tS
    rw [KX_moved, KX_old, KX_new, keysX_len, keysX_len]
    by_cases hn : X.new = []
    · rw [if_pos hn, if_pos hn, if_pos (by omega), openL_len]
      unfold openLen
      by_cases ho : X.old = []
      · rw [if_pos ⟨hn, ho⟩, if_pos (by rw [ho]; rfl)]; rfl
      · rw [if_neg (fun hh => ho hh.2), if_neg (fun hh => ho (List.length_eq_zero_iff.1 hh))]
    · have hmv := hI.good.mv hn
      have ho : X.old ≠ [] := fun hh => by rw [hh] at hmv; simp at hmv
      rw [if_neg hn, if_neg hn, if_neg (by omega), openL_of ho]
  refine ⟨hS, fun c => ?_⟩
  unfold tRK tK tL
  rw [hS, KX_moved, KX_old, KX_new, keysX_len, keysX_len]
  simp only [keysX_getD]
  by_cases hn : X.new = []
  · rw [if_pos hn, if_pos hn, if_pos (by omega)]
    unfold openL
    by_cases ho : X.old = []
    · rw [if_pos ⟨hn, ho⟩, ho]
      rw [List.getD_eq_getElem?_getD, List.getD_eq_getElem?_getD]
      have : ∀ n : Nat, ((List.replicate 4 ([] : List En))[n]?).getD [] = [] := fun n => by
        cases hc : (List.replicate 4 ([] : List En))[n]? with
        | none => rfl
        | some d => have := List.eq_of_mem_replicate (List.mem_of_getElem? hc); rw [this]; rfl
      rw [this]; simp
    · rw [if_neg (fun hh => ho hh.2)]
  · have hmv := hI.good.mv hn
    have ho : X.old ≠ [] := fun hh => by rw [hh] at hmv; simp at hmv
    rw [if_neg hn, if_neg hn, if_neg (by omega), openL_of ho]
    split
    · rw [kys_append, kys_append]
    · rw [kys_append, kys_append]

end Go.Proofs.YtdldgiicblmknaaDoor

/-
  The walk of the document's Scan. A table's shape; a cursor's bound.
-/
namespace Go.Proofs.YtdldgiicblmknaaDoor
open Go.RowKit

theorem tRK_len {t : KT} (hk : KOk t) (hP : ParK t) (c : Nat) : (tRK t c).length ≤ 3000000 := by
  have hct := hk.ct
  have hlo : ∀ n, (t.old.getD n []).length ≤ 1000000 := fun n => by
    rw [List.getD_eq_getElem?_getD]
    cases hc : t.old[n]? with
    | none => simp
    | some c => have := mem_flat_len (List.mem_of_getElem? hc); show c.length ≤ _; omega
  have hln : ∀ n, (t.new.getD n []).length ≤ 1000000 := fun n => by
    rw [List.getD_eq_getElem?_getD]
    cases hc : t.new[n]? with
    | none => simp
    | some c => have := mem_flat_len (List.mem_of_getElem? hc); show c.length ≤ _; omega
  have a0 := hlo (c % pw (tSK t))
  have a1 := hln (c % pw (tSK t))
  have a2 := hlo (c % pw (tSK t) + pw (tSK t))
  have a3 := hln (c % pw (tSK t) + pw (tSK t))
  obtain ⟨_, h | h | h⟩ := shapeK hk hP
  · rw [h.2.2]; omega
  · rw [h.2.2.2.2, List.length_append, List.length_append]; omega
  · rw [h.2.2.2.2, List.length_append, List.length_append]; omega
variable {B T : Nat} {t : KT} {vo vn : Value} {w : World}

set_option maxHeartbeats 4000000 in
theorem rscan_at (h : RAt B T t vo vn w) (hk : KOk t) (hP : ParK t) (c : Nat) (hc : c < 18446744073709551616) (count : Int) (hcnt : -9223372036854775808 ≤ count ∧ count ≤ 9223372036854775807) :
    Calls Tryd.prog 16 #[.pointer (some ⟨T, 0, none⟩), .int .u64 c, .int .i64 count] w fun r w' => ∃ v', r = .returned (.tuple #[.int .u64 (((scanF (tSK t) (tRK t) (cntN count) (turnsN count) c []).1 : Nat) : Int), v']) ∧ RowT w' w.heap.size v' (scanF (tSK t) (tRK t) (cntN count) (turnsN count) c []).2 ∧ Below w.heap.size w w' := by
  have hs16 := (shapeK hk hP).1
  have hH := Lib.hid h
  have htn : Hid (∀ w1, Below w.heap.size w w1 → ∀ c : Nat, c < 18446744073709551616 → Calls Tryd.prog 14 #[.pointer (some ⟨T, 0, none⟩), .int .u64 (c : Int)] w1 fun r w' => ∃ v', r = .returned (.tuple #[.int .u64 ((nxt (tSK t) c : Nat) : Int), v']) ∧ RowT w' w1.heap.size v' (tRK t c) ∧ Below w1.heap.size w1 w') := Lib.hid fun w1 hb c hc => rturn_at (hH.out.after hb) hk hP c hc
  have hlen : Hid (∀ c, (tRK t c).length ≤ 3000000) := Lib.hid fun c => tRK_len hk hP c
  have hN := turnsN_le count
  have hnx := fun c => nxt_small (tSK t) c hs16
  have hCd : cntN count = (max count 1).toNat := rfl
  have hNd : turnsN count = 10 * min (cntN count) 100000 := rfl
  generalize turnsN count = N at *
  generalize cntN count = C at *
  generalize tRK t = tl at *
  generalize tSK t = s at *
  clear h hk hP
  by_cases hc1 : count < 1
  · have hd : decide (count < 1) = true := by simpa using hc1
    have hC1 : C = 1 := by omega
    have hN1 : N = 10 := by omega
    subst hC1 hN1
    clear hCd hNd
    go_enter Tryd.func16, Tryd.ntmps16
    go_upto_region 8 with fail
    go_wp2_with fail
    go_loopw [1, 9, 10] (fun s1 s9 s10 wr => ∃ (i c' : Nat) (acc : List ByteArray) (v9 : Value), i ≤ 10 ∧ c' < 18446744073709551616 ∧ s10 = .int .i64 i ∧ s1 = .int .u64 c' ∧ v9 = s9 ∧ Hid (RowT wr w.heap.size v9 acc) ∧ Hid (Below w.heap.size w wr) ∧ Hid (acc.length ≤ 3000000 * i) ∧ Hid (scanF s tl 1 (10 - i) c' acc = scanF s tl 1 10 c [])) (fun _ _ s10 _ => 10 - (intOf s10).toNat)
    case atStart => exact ⟨0, c, [], _, by omega, hc, rfl, rfl, rfl, Lib.hid (rowT_nil _ _), Lib.hid (Below.refl _ _), Lib.hid (by simp), Lib.hid rfl⟩
    case round =>
      obtain ⟨i, c', acc, v9, hi, hc', rfl, rfl, rfl, how, hB, hal, hsc⟩ := hrel
      by_cases hlt : i < 10
      · have htu := Lib.hid (htn.out wr hB.out c' hc')
        have hl2 := hlen.out c'
        have hnx' := hnx c'
        obtain ⟨f, hf⟩ : ∃ f, 10 - i = f + 1 := ⟨10 - i - 1, by omega⟩
        have hfi : Hid (10 - (i + 1) = f) := Lib.hid (by omega)
        have hen : Hid (1 ≤ (acc ++ tl c').length ∨ nxt s c' = 0 → (nxt s c', acc ++ tl c') = scanF s tl 1 10 c []) := Lib.hid fun hh => by rw [← hsc.out, hf, scanF_end hh]
        have hmo : Hid (¬(1 ≤ (acc ++ tl c').length ∨ nxt s c' = 0) → scanF s tl 1 f (nxt s c') (acc ++ tl c') = scanF s tl 1 10 c []) := Lib.hid fun hh => by rw [← hsc.out, hf, scanF_more hh]
        generalize hnn : nxt s c' = nn at *
        have hal2 : Hid ((acc ++ tl c').length ≤ 3000000 * (i + 1)) := Lib.hid (by rw [List.length_append]; have := hal.out; omega)
        have hal3 : Hid (acc.length + (tl c').length ≤ 8000000000000) := Lib.hid (by have := hal.out; omega)
        generalize htc : tl c' = tc at *
        clear hsc hf hal hnn htc hl2
        go_upto_region 13 with (first
          | (go_at_call 14; ((with_reducible refine (htu.out).mono ?_); rintro e w1 ⟨v1, rfl, how1, hb1⟩))
          | (at_builtin; refine wpList_append_rowT rfl (.tmp 30) (.tmp 31) rfl w.heap.size wr.heap.size v9 v1 _ _ rfl rfl (how.out.stay hb1) how1 hal3.out (by have := hB.out.size; have := hb1.size; omega) ?happ))
        case happ =>
          intro v2 w2 how2 ho2 hv2
          have hb2 : Below w.heap.size w w1 := onB hB.out hb1 hB.out.size
          have hb3 := Lib.hid (hb2.trans (ho2.below hb2.size (fun k hk => (how.out.lt k (by simpa using hk)).1)))
          obtain ⟨A2, cap2, rfl⟩ := how2.len
          have how2H := Lib.hid how2
          clear how2 ho2 hv2 how1 hb1 hb2
          generalize hac : acc ++ tc = ac at *
          generalize hac2 : ac.length = n2 at *
          have hn2 := hal2.out
          by_cases hz : nn = 0
          · have hE := Lib.hid (hen.out (Or.inr hz))
            subst hz
            go_wp2_with fail
            go_ret2
            rw [← hE.out]
            exact ⟨.slice A2 n2 cap2, rfl, how2H.out, hb3.out⟩
          · have hd2 : ((nn : Int) == 0) = false := by simp; omega
            have hd3 : decide ((nn : Int) = 0) = false := by simp; omega
            by_cases hge : 1 ≤ n2
            · have hd1 : decide ((1 : Int) ≤ (n2 : Int)) = true := by simp; omega
              have hd4 : decide (1 ≤ n2) = true := by simp; omega
              have hE := Lib.hid (hen.out (Or.inl hge))
              go_wp2_with fail
              go_ret2
              rw [← hE.out]
              exact ⟨.slice A2 n2 cap2, rfl, how2H.out, hb3.out⟩
            · have hd1 : decide ((1 : Int) ≤ (n2 : Int)) = false := by simp; omega
              have hd4 : decide (1 ≤ n2) = false := by simp; omega
              have hE := Lib.hid (hmo.out (fun hh => hh.elim hge hz))
              go_wp2_with fail
              go_roundw
              case rel => exact ⟨i + 1, nn, ac, _, by omega, hnx', by go_num, rfl, rfl, how2H, hb3, Lib.hid (by rw [hac2]; exact hn2), Lib.hid (by rw [hfi.out]; exact hE.out)⟩
              case measure => simp [intOf]; omega
      · have hiN : i = 10 := by omega
        subst hiN
        have hE := hsc.out
        rw [Nat.sub_self, scanF_zero] at hE
        have hEH := Lib.hid hE
        clear hE hsc
        go_wp2_with fail
        go_ret2
        rw [← hEH.out]
        exact ⟨_, rfl, how.out, hB.out⟩
  · have hd : decide (count < 1) = false := by simpa using hc1
    obtain ⟨C', hC'⟩ := Int.eq_ofNat_of_zero_le (show 0 ≤ count by omega)
    subst hC'
    have hCC : C' = C := by omega
    subst hCC
    by_cases hc2 : C' ≤ 100000
    · have hd5 : decide ((C' : Int) ≤ 100000) = true := by simp; omega
      have hNN : (10 : Int) * (C' : Int) = (N : Int) := by omega
      clear hCd hNd
      go_enter Tryd.func16, Tryd.ntmps16
      go_upto_region 8 with fail
      go_wp2_with fail
      go_loopw [1, 9, 10] (fun s1 s9 s10 wr => ∃ (i c' : Nat) (acc : List ByteArray) (v9 : Value), i ≤ N ∧ c' < 18446744073709551616 ∧ s10 = .int .i64 i ∧ s1 = .int .u64 c' ∧ v9 = s9 ∧ Hid (RowT wr w.heap.size v9 acc) ∧ Hid (Below w.heap.size w wr) ∧ Hid (acc.length ≤ 3000000 * i) ∧ Hid (scanF s tl C' (N - i) c' acc = scanF s tl C' N c [])) (fun _ _ s10 _ => N - (intOf s10).toNat)
      case atStart => exact ⟨0, c, [], _, by omega, hc, rfl, rfl, rfl, Lib.hid (rowT_nil _ _), Lib.hid (Below.refl _ _), Lib.hid (by simp), Lib.hid rfl⟩
      case round =>
        obtain ⟨i, c', acc, v9, hi, hc', rfl, rfl, rfl, how, hB, hal, hsc⟩ := hrel
        by_cases hlt : i < N
        · have htu := Lib.hid (htn.out wr hB.out c' hc')
          have hl2 := hlen.out c'
          have hnx' := hnx c'
          obtain ⟨f, hf⟩ : ∃ f, N - i = f + 1 := ⟨N - i - 1, by omega⟩
          have hfi : Hid (N - (i + 1) = f) := Lib.hid (by omega)
          have hen : Hid (C' ≤ (acc ++ tl c').length ∨ nxt s c' = 0 → (nxt s c', acc ++ tl c') = scanF s tl C' N c []) := Lib.hid fun hh => by rw [← hsc.out, hf, scanF_end hh]
          have hmo : Hid (¬(C' ≤ (acc ++ tl c').length ∨ nxt s c' = 0) → scanF s tl C' f (nxt s c') (acc ++ tl c') = scanF s tl C' N c []) := Lib.hid fun hh => by rw [← hsc.out, hf, scanF_more hh]
          generalize hnn : nxt s c' = nn at *
          have hal2 : Hid ((acc ++ tl c').length ≤ 3000000 * (i + 1)) := Lib.hid (by rw [List.length_append]; have := hal.out; omega)
          have hal3 : Hid (acc.length + (tl c').length ≤ 8000000000000) := Lib.hid (by have := hal.out; omega)
          generalize htc : tl c' = tc at *
          clear hsc hf hal hnn htc hl2
          go_upto_region 13 with (first
            | (go_at_call 14; ((with_reducible refine (htu.out).mono ?_); rintro e w1 ⟨v1, rfl, how1, hb1⟩))
            | (at_builtin; refine wpList_append_rowT rfl (.tmp 30) (.tmp 31) rfl w.heap.size wr.heap.size v9 v1 _ _ rfl rfl (how.out.stay hb1) how1 hal3.out (by have := hB.out.size; have := hb1.size; omega) ?happ))
          case happ =>
            intro v2 w2 how2 ho2 hv2
            have hb2 : Below w.heap.size w w1 := onB hB.out hb1 hB.out.size
            have hb3 := Lib.hid (hb2.trans (ho2.below hb2.size (fun k hk => (how.out.lt k (by simpa using hk)).1)))
            obtain ⟨A2, cap2, rfl⟩ := how2.len
            have how2H := Lib.hid how2
            clear how2 ho2 hv2 how1 hb1 hb2
            generalize hac : acc ++ tc = ac at *
            generalize hac2 : ac.length = n2 at *
            have hn2 := hal2.out
            by_cases hz : nn = 0
            · have hE := Lib.hid (hen.out (Or.inr hz))
              subst hz
              go_wp2_with fail
              go_ret2
              rw [← hE.out]
              exact ⟨.slice A2 n2 cap2, rfl, how2H.out, hb3.out⟩
            · have hd2 : ((nn : Int) == 0) = false := by simp; omega
              have hd3 : decide ((nn : Int) = 0) = false := by simp; omega
              by_cases hge : C' ≤ n2
              · have hd1 : decide ((C' : Int) ≤ (n2 : Int)) = true := by simp; omega
                have hd4 : decide (C' ≤ n2) = true := by simp; omega
                have hE := Lib.hid (hen.out (Or.inl hge))
                go_wp2_with fail
                go_ret2
                rw [← hE.out]
                exact ⟨.slice A2 n2 cap2, rfl, how2H.out, hb3.out⟩
              · have hd1 : decide ((C' : Int) ≤ (n2 : Int)) = false := by simp; omega
                have hd4 : decide (C' ≤ n2) = false := by simp; omega
                have hE := Lib.hid (hmo.out (fun hh => hh.elim hge hz))
                go_wp2_with fail
                go_roundw
                case rel => exact ⟨i + 1, nn, ac, _, by omega, hnx', by go_num, rfl, rfl, how2H, hb3, Lib.hid (by rw [hac2]; exact hn2), Lib.hid (by rw [hfi.out]; exact hE.out)⟩
                case measure => simp [intOf]; omega
        · have hiN : i = N := by omega
          subst hiN
          have hE := hsc.out
          rw [Nat.sub_self, scanF_zero] at hE
          have hEH := Lib.hid hE
          clear hE hsc
          go_wp2_with fail
          go_ret2
          rw [← hEH.out]
          exact ⟨_, rfl, how.out, hB.out⟩
    · have hd5 : decide ((C' : Int) ≤ 100000) = false := by simp; omega
      have hNN : N = 1000000 := by omega
      subst hNN
      clear hCd hNd
      go_enter Tryd.func16, Tryd.ntmps16
      go_upto_region 8 with fail
      go_wp2_with fail
      go_loopw [1, 9, 10] (fun s1 s9 s10 wr => ∃ (i c' : Nat) (acc : List ByteArray) (v9 : Value), i ≤ 1000000 ∧ c' < 18446744073709551616 ∧ s10 = .int .i64 i ∧ s1 = .int .u64 c' ∧ v9 = s9 ∧ Hid (RowT wr w.heap.size v9 acc) ∧ Hid (Below w.heap.size w wr) ∧ Hid (acc.length ≤ 3000000 * i) ∧ Hid (scanF s tl C' (1000000 - i) c' acc = scanF s tl C' 1000000 c [])) (fun _ _ s10 _ => 1000000 - (intOf s10).toNat)
      case atStart => exact ⟨0, c, [], _, by omega, hc, rfl, rfl, rfl, Lib.hid (rowT_nil _ _), Lib.hid (Below.refl _ _), Lib.hid (by simp), Lib.hid rfl⟩
      case round =>
        obtain ⟨i, c', acc, v9, hi, hc', rfl, rfl, rfl, how, hB, hal, hsc⟩ := hrel
        by_cases hlt : i < 1000000
        · have htu := Lib.hid (htn.out wr hB.out c' hc')
          have hl2 := hlen.out c'
          have hnx' := hnx c'
          obtain ⟨f, hf⟩ : ∃ f, 1000000 - i = f + 1 := ⟨1000000 - i - 1, by omega⟩
          have hfi : Hid (1000000 - (i + 1) = f) := Lib.hid (by omega)
          have hen : Hid (C' ≤ (acc ++ tl c').length ∨ nxt s c' = 0 → (nxt s c', acc ++ tl c') = scanF s tl C' 1000000 c []) := Lib.hid fun hh => by rw [← hsc.out, hf, scanF_end hh]
          have hmo : Hid (¬(C' ≤ (acc ++ tl c').length ∨ nxt s c' = 0) → scanF s tl C' f (nxt s c') (acc ++ tl c') = scanF s tl C' 1000000 c []) := Lib.hid fun hh => by rw [← hsc.out, hf, scanF_more hh]
          generalize hnn : nxt s c' = nn at *
          have hal2 : Hid ((acc ++ tl c').length ≤ 3000000 * (i + 1)) := Lib.hid (by rw [List.length_append]; have := hal.out; omega)
          have hal3 : Hid (acc.length + (tl c').length ≤ 8000000000000) := Lib.hid (by have := hal.out; omega)
          generalize htc : tl c' = tc at *
          have hd0 : decide ((i : Int) < 1000000) = true := by simp; omega
          have hltH := Lib.hid hlt
          clear hsc hf hal hnn htc hl2 hlt hi
          go_upto_region 13 with (first
            | (go_at_call 14; ((with_reducible refine (htu.out).mono ?_); rintro e w1 ⟨v1, rfl, how1, hb1⟩))
            | (at_builtin; refine wpList_append_rowT rfl (.tmp 30) (.tmp 31) rfl w.heap.size wr.heap.size v9 v1 _ _ rfl rfl (how.out.stay hb1) how1 hal3.out (by have := hB.out.size; have := hb1.size; omega) ?happ))
          case happ =>
            intro v2 w2 how2 ho2 hv2
            have hb2 : Below w.heap.size w w1 := onB hB.out hb1 hB.out.size
            have hb3 := Lib.hid (hb2.trans (ho2.below hb2.size (fun k hk => (how.out.lt k (by simpa using hk)).1)))
            obtain ⟨A2, cap2, rfl⟩ := how2.len
            have how2H := Lib.hid how2
            clear how2 ho2 hv2 how1 hb1 hb2
            generalize hac : acc ++ tc = ac at *
            generalize hac2 : ac.length = n2 at *
            have hn2 := hal2.out
            by_cases hz : nn = 0
            · have hE := Lib.hid (hen.out (Or.inr hz))
              subst hz
              go_wp2_with fail
              go_ret2
              rw [← hE.out]
              exact ⟨.slice A2 n2 cap2, rfl, how2H.out, hb3.out⟩
            · have hd2 : ((nn : Int) == 0) = false := by simp; omega
              have hd3 : decide ((nn : Int) = 0) = false := by simp; omega
              by_cases hge : C' ≤ n2
              · have hd1 : decide ((C' : Int) ≤ (n2 : Int)) = true := by simp; omega
                have hd4 : decide (C' ≤ n2) = true := by simp; omega
                have hE := Lib.hid (hen.out (Or.inl hge))
                go_wp2_with fail
                go_ret2
                rw [← hE.out]
                exact ⟨.slice A2 n2 cap2, rfl, how2H.out, hb3.out⟩
              · have hd1 : decide ((C' : Int) ≤ (n2 : Int)) = false := by simp; omega
                have hd4 : decide (C' ≤ n2) = false := by simp; omega
                have hE := Lib.hid (hmo.out (fun hh => hh.elim hge hz))
                have hib := hltH.out
                go_wp2_with fail
                go_roundw
                case rel => exact ⟨i + 1, nn, ac, _, by omega, hnx', by go_num, rfl, rfl, how2H, hb3, Lib.hid (by rw [hac2]; exact hn2), Lib.hid (by rw [hfi.out]; exact hE.out)⟩
                case measure => simp [intOf]; omega
        · have hiN : i = 1000000 := by omega
          have hd0 : decide ((i : Int) < 1000000) = false := by simp; omega
          have hE := hsc.out
          rw [hiN, Nat.sub_self, scanF_zero] at hE
          have hEH := Lib.hid hE
          clear hE hsc hiN hlt hi
          go_wp2_with fail
          go_ret2
          rw [← hEH.out]
          exact ⟨_, rfl, how.out, hB.out⟩

end Go.Proofs.YtdldgiicblmknaaDoor
