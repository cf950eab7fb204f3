/-
  The program's order of files, and the library's sort by insertion of a part of a row. Premise: the row lies in a block that is written in place.
-/
import Derived.Test.YthdgfchmglkpaaaChecked
import Derived.Test.YthdgfchmglkpaaaMath
import Derived.Test.YthdgfchmglkpaaaA
import Derived.Test.YthdgfchmglkpaaaB
import Derived.Test.YthdgfchmglkpaaaC
import Derived.Test.YthdgfchmglkpaaaD
import Derived.Test.YthdgfchmglkpaaaE
import Derived.Test.YthdgfchmglkpaaaF
import Derived.Test.YthdgfchmglkpaaaG
import Derived.Test.YthdgfchmglkpaaaJ
import Derived.Test.YthdgfchmglkpaaaK
import Derived.Test.YthdgfchmglkpaaaL
import Derived.Test.YthdgfchmglkpaaaM
import Derived.Test.YthdgfchmglkpaaaU
import Derived.Test.YthdgfchmglkpaaaS
import Derived.Test.YthdgfchmglkpaaaVM
import Derived.Test.YthdgfchmglkpaaaVS
import Derived.WalkKit
import Derived.WalkSpells
import Derived.WalkLawsBesides
import Derived.Deep.QuietTactic
import Derived.BigQuiet
import Derived.Lib.Hide
import Derived.Lib.SmallJoins
import Derived.Outline
import Derived.OwnWalk
import Derived.Deep.CutBlock
import Derived.BigRegion
import Derived.StillTailTactics
import Derived.Laws.AppendOwnNone
import Derived.Maps.AppendAt
import Derived.Deep.RegionLaw
import Derived.Deep.RegionHeld3
import Derived.Lib.BufferRead
import Derived.Deep.AppendLies
namespace Go.Proofs.Ythdgfchmglkpaaa
open Go.RowKit
theorem nanS_any (x : ByteArray) (w : World) : Calls Try.prog 63 #[.string x] w fun e w' => e = .returned (.bool false) ∧ w = w' := by
  go_enter Try.func63, Try.ntmps63
  go_wp2
  go_ret
  exact ⟨ret_bool (by simp), rfl⟩
def cmpT (a b : ByteArray) : Int := if Op.bytesLess a.toList b.toList = true then -1 else if (a.toList == b.toList) = true then 0 else 1
set_option maxHeartbeats 1000000 in
theorem cmpT_any (x y : ByteArray) (w : World) : Calls Try.prog 52 #[.string x, .string y] w fun e w' => e = .returned (.int .i64 (cmpT x y)) ∧ w = w' := by
  unfold cmpT
  have hd : Op.bytesLess x.toList y.toList = true ∨ Op.bytesLess x.toList y.toList = false := by cases Op.bytesLess x.toList y.toList <;> simp
  have he : (x.toList == y.toList) = true ∨ (x.toList == y.toList) = false := by cases (x.toList == y.toList) <;> simp
  rcases hd with hd | hd <;> rcases he with he | he
  all_goals
    go_enter Try.func52, Try.ntmps52
    go_wp2_with (go_at_call 63; ((with_reducible refine (nanS_any _ _).mono ?_); rintro e w' ⟨rfl, rfl⟩))
    all_goals (go_ret; exact ⟨ret_int (by first | rfl | ((rw [hd, he]) <;> rfl) | ((rw [hd]) <;> rfl)), rfl⟩)
abbrev flV (x : Fl) : Value := .agg #[.string x.1, .string x.2.1, .int .i64 x.2.2]
theorem two_files (w : World) (x y : Fl) : ∃ W, W = (w.alloc (.cells #[.string x.1, .string x.2.1, .int .i64 x.2.2] 39)).alloc (.cells #[.string y.1, .string y.2.1, .int .i64 y.2.2] 39) ∧ W.cell? ⟨w.heap.size, 0, none⟩ = some (.string x.1) ∧ W.cell? ⟨w.heap.size + 1, 0, none⟩ = some (.string y.1) ∧ Below w.heap.size w W := by
  obtain ⟨W, hW, k1, k2, kb, ks⟩ := two_boxes w (.cells #[.string x.1, .string x.2.1, .int .i64 x.2.2] 39) (.cells #[.string y.1, .string y.2.1, .int .i64 y.2.2] 39)
  exact ⟨W, hW, Lib.cell_of_heap k1 0, Lib.cell_of_heap k2 0, kb⟩
/-- The program's order of files, as a number. -/
theorem count1_any (x y : Fl) (w : World) : Calls Try.prog 51 #[flV x, flV y] w fun e w' => e = .returned (.int .i64 (cmpT x.1 y.1)) ∧ Below w.heap.size w w' := by
  obtain ⟨W, hW, z0, z1, kb⟩ := two_files w x y
  have hT := Lib.hid (fun w => cmpT_any x.1 y.1 w)
  go_enter Try.func51, Try.ntmps51
  go_upto_region 1 with fail
  rw [← hW]
  clear hW
  go_wp2_with (go_at_call 52; ((with_reducible refine (hT.out _).mono ?_); rintro e w' ⟨rfl, rfl⟩))
  go_ret
  exact ⟨rfl, kb⟩
theorem cmp_yes {x y : Fl} (h : Op.bytesLess x.1.toList y.1.toList = true) (w : World) : Calls Try.prog 51 #[flV x, flV y] w fun e w' => e = .returned (.int .i64 (-1)) ∧ Below w.heap.size w w' := by
  have := count1_any x y w
  unfold cmpT at this
  rw [if_pos h] at this
  exact this
theorem cmp_no {x y : Fl} (h : Op.bytesLess x.1.toList y.1.toList = false) (w : World) : Calls Try.prog 51 #[flV x, flV y] w fun e w' => (∃ c : Int, e = .returned (.int .i64 c) ∧ decide (c < 0) = false) ∧ Below w.heap.size w w' := by
  refine (count1_any x y w).mono ?_
  rintro e w' ⟨rfl, hb⟩
  refine ⟨⟨_, rfl, ?_⟩, hb⟩
  unfold cmpT
  rw [h]
  simp only [Bool.false_eq_true, if_false]
  split <;> rfl
theorem nil_or_snoc {α : Type} : ∀ l : List α, l = [] ∨ ∃ Z z, l = Z ++ [z] := fun l => by
  rcases List.eq_nil_or_concat l with h | ⟨Z, z, h⟩
  · exact Or.inl h
  · exact Or.inr ⟨Z, z, by rw [h, List.concat_eq_append]⟩
/-- A sort by insertion: what stands where. -/
theorem ins_down {P Z1 Z2 R : List TF} {x z : TF} : (P ++ (Z1 ++ [z]) ++ x :: Z2 ++ R).map (·.1) = (P ++ Z1).map (·.1) ++ z.1 :: (([] : List Fl) ++ x.1 :: (Z2 ++ R).map (·.1)) ∧ (P ++ Z1).map (·.1) ++ x.1 :: (([] : List Fl) ++ z.1 :: (Z2 ++ R).map (·.1)) = (P ++ Z1 ++ x :: (z :: Z2) ++ R).map (·.1) := by
  constructor
  · simp only [List.map_append, List.map_cons, List.append_assoc, List.cons_append, List.nil_append]
  · simp only [List.map_append, List.map_cons, List.append_assoc, List.cons_append, List.nil_append]
theorem ins_done {x : TF} {Z1 Z2 : List TF} (h : Srt (Z1 ++ Z2)) (h1 : Z1 = [] ∨ ∃ Z z, Z1 = Z ++ [z] ∧ ltT z x) (h2 : ∀ z ∈ Z2, ltT x z) : Srt (Z1 ++ x :: Z2) := by
  obtain ⟨a, b, c⟩ := List.pairwise_append.1 h
  refine List.pairwise_append.2 ⟨a, List.pairwise_cons.2 ⟨h2, b⟩, fun u hu v hv => ?_⟩
  rcases List.mem_cons.1 hv with rfl | hv
  · rcases h1 with rfl | ⟨Z, z, rfl, hz⟩
    · cases hu
    · rcases List.mem_append.1 hu with hu | hu
      · exact ltT_trans ((List.pairwise_append.1 a).2.2 u hu z (by simp)) hz
      · rw [List.mem_singleton.1 hu]; exact hz
  · exact c u hu v hv
/-- Where a sort by insertion stands: Z is in order, x is on its way. -/
structure Ins (g cap k : Nat) (P X R : List TF) (Z1 Z2 : List TF) (x : TF) (w : World) : Prop where
  row : SRow w g cap ((P ++ Z1 ++ x :: Z2 ++ (X.drop (k + 1) ++ R)).map (·.1))
  perm : (Z1 ++ Z2).Perm (X.take k)
  srt : Srt (Z1 ++ Z2)
  up : ∀ z ∈ Z2, ltT x z
  at' : X[k]? = some x
structure InsO (g cap k : Nat) (P X R Z : List TF) (w : World) : Prop where
  row : SRow w g cap ((P ++ Z ++ (X.drop k ++ R)).map (·.1))
  perm : Z.Perm (X.take k)
  srt : Srt Z
theorem InsO.start {g cap k : Nat} {P X R Z : List TF} {w : World} {x : TF} (h : InsO g cap k P X R Z w) (hx : X[k]? = some x) : Ins g cap k P X R Z [] x w := by
  obtain ⟨h1, h2, h3⟩ := h
  obtain ⟨hk, e⟩ := List.getElem?_eq_some_iff.1 hx
  refine ⟨?_, by simpa using h2, by simpa using h3, fun z hz => (by cases hz), hx⟩
  have e2 : X.drop k = x :: X.drop (k + 1) := by rw [List.drop_eq_getElem_cons hk, e]
  rw [e2] at h1
  simpa using h1
theorem Ins.done {g cap k : Nat} {P X R Z1 Z2 : List TF} {w : World} {x : TF} (h : Ins g cap k P X R Z1 Z2 x w) (h1 : Z1 = [] ∨ ∃ Z z, Z1 = Z ++ [z] ∧ ltT z x) : InsO g cap (k + 1) P X R (Z1 ++ x :: Z2) w := by
  obtain ⟨r1, r2, r3, r4, r5⟩ := h
  refine ⟨by simpa using r1, ?_, ins_done r3 h1 r4⟩
  rw [List.take_add_one, r5]
  refine List.perm_middle.trans ?_
  exact (List.Perm.cons x r2).trans (List.perm_append_singleton x (X.take k)).symm
theorem Ins.down {g cap k : Nat} {P X R Z Z2 : List TF} {w w' : World} {x z : TF} (h : Ins g cap k P X R (Z ++ [z]) Z2 x w) (hx : ltT x z) (hr : SRow w' g cap ((P ++ Z ++ x :: (z :: Z2) ++ (X.drop (k + 1) ++ R)).map (·.1))) : Ins g cap k P X R Z (z :: Z2) x w' := by
  obtain ⟨r1, r2, r3, r4, r5⟩ := h
  refine ⟨hr, by simpa using r2, by simpa using r3, fun u hu => ?_, r5⟩
  rcases List.mem_cons.1 hu with rfl | hu
  · exact hx
  · exact r4 u hu
theorem Ins.on {g cap k : Nat} {P X R Z1 Z2 : List TF} {w w' : World} {x : TF} (h : Ins g cap k P X R Z1 Z2 x w) (hb : Below w.heap.size w w') : Ins g cap k P X R Z1 Z2 x w' := ⟨h.row.on hb, h.perm, h.srt, h.up, h.at'⟩
set_option maxRecDepth 100000 in
set_option maxHeartbeats 8000000 in
theorem insertion_any {w : World} {g cap a b n : Nat} {P X R : List TF} (h : SRow w g cap ((P ++ X ++ R).map (·.1))) (ha : a = P.length) (hb : b = P.length + X.length) (hn : (P ++ X ++ R).length = n) (hcap : n ≤ 1000000) (hX : X.Pairwise fun x y => x.2 < y.2) :
    Calls Try.prog 65 #[.slice (some ⟨g, 0, none⟩) n cap, .int .i64 (a : Int), .int .i64 (b : Int), .func (.func 51) #[] #[]] w fun e w' => e = .returned (.tuple #[]) ∧ (∃ Z, Z.Perm X ∧ Srt Z ∧ SRow w' g cap ((P ++ Z ++ R).map (·.1))) ∧ Only [g] w w' := by
  obtain ⟨l, hl⟩ : ∃ l, l = X.length := ⟨_, rfl⟩
  have hnl : a + l + R.length = n := by rw [← hn, hl, ha]; simp; omega
  have hI0 : Hid (InsO g cap 1 P X R (X.take 1) w) := Lib.hid ⟨by rw [List.append_assoc, ← List.append_assoc (X.take 1), List.take_append_drop, ← List.append_assoc]; exact h, List.Perm.refl _, by
    cases X with
    | nil => exact List.Pairwise.nil
    | cons x X => simp⟩
  have hend : Hid (∀ k Z wr, l ≤ k → InsO g cap k P X R Z wr → ∃ Z, Z.Perm X ∧ Srt Z ∧ SRow wr g cap ((P ++ Z ++ R).map (·.1))) := Lib.hid (fun k Z wr hk hi => by
    obtain ⟨h1, h2, h3⟩ := hi
    rw [List.take_of_length_le (by omega)] at h2
    rw [List.drop_of_length_le (by omega)] at h1
    exact ⟨Z, h2, h3, by simpa using h1⟩)
  have hget : Hid (∀ k, k < l → ∃ x, X[k]? = some x) := Lib.hid (fun k hk => ⟨_, List.getElem?_eq_getElem (by omega)⟩)
  have hlen : Hid (∀ k Z wr, k ≤ l → InsO g cap k P X R Z wr → Z.length = k) := Lib.hid (fun k Z wr hk hi => by
    have := hi.perm.length_eq
    rw [List.length_take] at this
    omega)
  have hbef : Hid (∀ k Z1 Z2 x wr z, Ins g cap k P X R Z1 Z2 x wr → z ∈ Z1 → z.2 < x.2) := Lib.hid (fun k Z1 Z2 x wr z hi hz => by
    have hm : z ∈ X.take k := hi.perm.mem_iff.1 (List.mem_append_left _ hz)
    obtain ⟨i, hi2⟩ := mem_get hm
    rw [List.getElem?_take] at hi2
    split at hi2
    · obtain ⟨p1, e1⟩ := List.getElem?_eq_some_iff.1 hi2
      obtain ⟨p2, e2⟩ := List.getElem?_eq_some_iff.1 hi.at'
      rw [← e1, ← e2]
      exact List.pairwise_iff_getElem.1 hX i k p1 p2 (by assumption)
    · cases hi2)
  have haH := Lib.hid ha
  have hlH := Lib.hid (show a + l ≤ n ∧ n ≤ 1000000 by omega)
  have hbH : Hid (b = a + l) := Lib.hid (by omega)
  obtain ⟨i1, hi1⟩ : ∃ i1, i1 = a + 1 := ⟨_, rfl⟩
  have hi1H := Lib.hid hi1
  have s0 : IntKind.i64.wrap ((a : Int) + 1) = (i1 : Int) := by have := hlH.out; rw [wrap_small (by omega)]; omega
  clear h ha hb hn hcap hX hnl hl hi1
  go_enter Try.func65, Try.ntmps65
  go_wp2_with fail
  go_loopw [8] (fun s8 wr => ∃ (i k : Nat) (Z : List TF), s8 = .int .i64 (i : Int) ∧ Hid (i = a + k ∧ 1 ≤ k ∧ (k ≤ l ∨ k = 1)) ∧ Hid (InsO g cap k P X R Z wr) ∧ Hid (Only [g] w wr)) (fun s8 _ => b - (intOf s8).toNat)
  case atStart => exact ⟨i1, 1, _, rfl, Lib.hid ⟨hi1H.out, Nat.le_refl _, Or.inr rfl⟩, hI0, Lib.hid (Only.refl _ _)⟩
  case round =>
    clear hI0 s0
    obtain ⟨i, k, Z, rfl, hik, hI, hO⟩ := hrel
    obtain ⟨hi, hk1, hk2⟩ := hik.out
    obtain ⟨hl1, hl2⟩ := hlH.out
    have hb1 := hbH.out
    by_cases hkl : k < l
    · obtain ⟨x, hx⟩ := hget.out k hkl
      have hz := hlen.out k Z wr (by omega) hI.out
      have hS0 := Lib.hid (hI.out.start hx)
      have dk : decide ((i : Int) < (b : Int)) = true := decide_eq_true (by omega)
      have dk2 : decide (i < b) = true := decide_eq_true (by omega)
      have hzH := Lib.hid hz
      have hklH := Lib.hid hkl
      have hwi := wrap_small (x := (i : Int) + 1) (by omega)
      clear hx hz hI hi hkl hk2 hk1 hl1 hl2 hb1
      go_wp2_with fail
      go_loopw [9] (fun s9 wx => ∃ (j : Nat) (Z1 Z2 : List TF), s9 = .int .i64 (j : Int) ∧ Hid (j = a + Z1.length) ∧ Hid (Ins g cap k P X R Z1 Z2 x wx) ∧ Hid (Only [g] w wx)) (fun s9 _ => (intOf s9).toNat)
      case atStart => exact ⟨i, Z, [], rfl, Lib.hid (by have := hzH.out; have := hik.out; omega), hS0, hO⟩
      case round =>
        clear hS0 hO
        obtain ⟨j, Z1, Z2, rfl, hj, hS, hO⟩ := hrel
        have hfin : Hid ((Z1 = [] ∨ ∃ Z z, Z1 = Z ++ [z] ∧ ltT z x) → ∃ Z, InsO g cap (k + 1) P X R Z wr) := Lib.hid (fun h => ⟨_, hS.out.done h⟩)
        have hj1 := hj.out
        rcases nil_or_snoc Z1 with rfl | ⟨Z, z, rfl⟩
        · have ha1 : j = a := by simpa using hj1
          subst ha1
          have d1 : decide ((j : Int) < (j : Int)) = false := decide_eq_false (by omega)
          have d2 : decide (j < j) = false := decide_eq_false (by omega)
          clear hj1
          obtain ⟨Z', hZ'⟩ := hfin.out (Or.inl rfl)
          have hZH := Lib.hid hZ'
          clear hZ' hfin hS
          go_wp2_with fail
          go_region
          go_wp2_with fail
          go_roundw
          case rel => exact ⟨i + 1, k + 1, Z', by go_num, Lib.hid (by have := hik.out; have := hklH.out; omega), Lib.hid ⟨hZH.out.row.on (Below.refl _ _).drew, hZH.out.perm, hZH.out.srt⟩, Lib.hid hO.out.drew⟩
          case measure => have := hik.out; have := hklH.out; have := hbH.out; simp [intOf]; omega
        · obtain ⟨hl1, hl2⟩ := hlH.out
          have hzl := hbef.out _ _ _ _ _ z hS.out (by simp)
          obtain ⟨p, hp⟩ : ∃ p, p = a + Z.length := ⟨_, rfl⟩
          have hjp : j = p + 1 := by rw [hj1, hp]; simp; omega
          have hzk := hik.out
          have hkk := hklH.out
          have hzl2 : Z.length + 1 + Z2.length = k := by
            have := hS.out.perm.length_eq
            simp only [List.length_append, List.length_take, List.length_singleton] at this
            obtain ⟨hkX, _⟩ := List.getElem?_eq_some_iff.1 hS.out.at'
            omega
          have s1 : IntKind.i64.wrap ((j : Int) - 1) = (p : Int) := by rw [wrap_small (by omega)]; omega
          have d1 : decide ((a : Int) < (j : Int)) = true := decide_eq_true (by omega)
          have d2 : decide (a < j) = true := decide_eq_true (by omega)
          have hjn : j < n := by omega
          have hixp := run_ixG g p n cap (by omega)
          have hixj := run_ixG g j n cap hjn
          have hrow := hS.out.row
          rw [(ins_down (P := P) (Z1 := Z) (Z2 := Z2) (R := X.drop (k + 1) ++ R) (x := x) (z := z)).1] at hrow
          have q1 : p = ((P ++ Z).map (·.1)).length := by have := haH.out; simp; omega
          have q2 : j = ((P ++ Z).map (·.1)).length + 1 + ([] : List Fl).length := by have := haH.out; simp; omega
          have gz : ((P ++ Z).map (·.1) ++ z.1 :: (([] : List Fl) ++ x.1 :: (Z2 ++ (X.drop (k + 1) ++ R)).map (·.1)))[p]? = some z.1 := by rw [q1]; exact get_at _ _ _
          have gx : ((P ++ Z).map (·.1) ++ z.1 :: (([] : List Fl) ++ x.1 :: (Z2 ++ (X.drop (k + 1) ++ R)).map (·.1)))[j]? = some x.1 := by rw [q2]; exact get_at2 _ _ _ _ _
          have hMk : Hid (∀ X1, Below wr.heap.size wr X1 → Below wr.heap.size wr X1 ∧ (X1.cell? ⟨g, p * 3, none⟩ = some (.string z.1.1) ∧ X1.cell? ⟨g, p * 3 + 1, none⟩ = some (.string z.1.2.1) ∧ X1.cell? ⟨g, p * 3 + 2, none⟩ = some (.int .i64 z.1.2.2)) ∧ (X1.cell? ⟨g, j * 3, none⟩ = some (.string x.1.1) ∧ X1.cell? ⟨g, j * 3 + 1, none⟩ = some (.string x.1.2.1) ∧ X1.cell? ⟨g, j * 3 + 2, none⟩ = some (.int .i64 x.1.2.2))) := Lib.hid (fun X1 hX => ⟨hX, (hrow.on hX).at gz, (hrow.on hX).at gx⟩)
          have hK0 := Lib.hid (Below.drew (Below.refl wr.heap.size wr))
          have hOn : Hid (∀ a c, Below a.heap.size a c → Below wr.heap.size wr a → Below wr.heap.size wr c) := Lib.hid fun a c k h => h.trans (k.mono h.size)
          cases hb : Op.bytesLess x.1.1.toList z.1.1.toList with
          | true =>
            have hC := Lib.hid (fun W => cmp_yes hb W)
            have hlt : Hid (ltT x z) := Lib.hid (ltT_yes hb)
            have hrowH := Lib.hid hrow
            have gzH := Lib.hid gz
            have gxH := Lib.hid gx
            have q1H := Lib.hid q1
            have q2H := Lib.hid q2
            have hpj : Hid (j = p + 1) := Lib.hid hjp
            clear hrow gz gx q1 q2 hjp hp hzl hzl2 hzk hkk hjn hl1 hl2 hj1 hfin hb
            go_wp2_with fail
            go_region_held3 (fun w' => Below wr.heap.size wr w' ∧ (w'.cell? ⟨g, p * 3, none⟩ = some (.string z.1.1) ∧ w'.cell? ⟨g, p * 3 + 1, none⟩ = some (.string z.1.2.1) ∧ w'.cell? ⟨g, p * 3 + 2, none⟩ = some (.int .i64 z.1.2.2)) ∧ (w'.cell? ⟨g, j * 3, none⟩ = some (.string x.1.1) ∧ w'.cell? ⟨g, j * 3 + 1, none⟩ = some (.string x.1.2.1) ∧ w'.cell? ⟨g, j * 3 + 2, none⟩ = some (.int .i64 x.1.2.2)))
              (first | exact hMk.out _ hK0.out | exact hMk.out _ (hOn.out _ _ (by assumption) (And.left (by assumption))) | assumption)
              (first | (go_at_call 51; ((with_reducible refine (hC.out _).mono ?_); rintro e' u1 ⟨rfl, bb1⟩)))
            rename_i hHeld
            have hbu := hHeld.1
            have hrow2 := hrowH.out.on hbu
            obtain ⟨⟨⟨x1, x2, x3⟩, ⟨y1, y2, y3⟩⟩, t1, t2, t3, t4, t5, z0, z1, z2, z3, z4, z5⟩ := hrow2.ways gxH.out gzH.out (by have := hpj.out; omega)
            obtain ⟨hr3, ho3⟩ := hrow2.swap' q1H.out q2H.out
            rw [ins_down.2] at hr3
            have hS3 := Lib.hid ((hS.out.on hbu).down hlt.out hr3)
            have ho3H := Lib.hid ((hO.out.trans (of_below hbu) (by simp)).trans ho3 (fun k hk => Or.inl hk))
            unfold put3 at hS3 ho3H
            clear hHeld hbu hrow2 hr3 ho3 hMk hK0 hOn hC hS hrowH gzH gxH q1H q2H bb1
            go_wp2_with fail
            go_region
            go_wp2_with fail
            go_roundw
            case rel => exact ⟨p, Z, z :: Z2, by go_num, Lib.hid (by have := hpj.out; have := hj.out; simp at this; omega), Lib.hid (hS3.out.on (Below.refl _ _).drew), Lib.hid ho3H.out.drew⟩
            case measure => have := hpj.out; simp [intOf]; omega
          | false =>
            obtain ⟨Z', hZ'⟩ := hfin.out (Or.inr ⟨Z, z, rfl, ltT_no hzl hb⟩)
            have hZH := Lib.hid hZ'
            have hC := Lib.hid (fun W => cmp_no hb W)
            clear hrow gz gx q1 q2 hjp hp hzl hzl2 hzk hkk hjn hl1 hl2 hj1 hfin hb hZ' hS
            go_wp2_with fail
            go_region_held3 (fun w' => Below wr.heap.size wr w' ∧ (w'.cell? ⟨g, p * 3, none⟩ = some (.string z.1.1) ∧ w'.cell? ⟨g, p * 3 + 1, none⟩ = some (.string z.1.2.1) ∧ w'.cell? ⟨g, p * 3 + 2, none⟩ = some (.int .i64 z.1.2.2)) ∧ (w'.cell? ⟨g, j * 3, none⟩ = some (.string x.1.1) ∧ w'.cell? ⟨g, j * 3 + 1, none⟩ = some (.string x.1.2.1) ∧ w'.cell? ⟨g, j * 3 + 2, none⟩ = some (.int .i64 x.1.2.2)))
              (first | exact hMk.out _ hK0.out | exact hMk.out _ (hOn.out _ _ (by assumption) (And.left (by assumption))) | assumption)
              (first | (go_at_call 51; ((with_reducible refine (hC.out _).mono ?_); rintro e' u1 ⟨⟨c, rfl, hc⟩, bb1⟩)))
            rename_i hHeld
            have hbu := Lib.hid hHeld.1
            clear hHeld hMk hK0 hOn hC bb1
            go_wp2_with fail
            go_roundw
            case rel => exact ⟨i + 1, k + 1, Z', by go_num, Lib.hid (by have := hik.out; have := hklH.out; omega), Lib.hid ⟨hZH.out.row.on hbu.out, hZH.out.perm, hZH.out.srt⟩, Lib.hid (hO.out.trans (of_below hbu.out) (by simp))⟩
            case measure => have := hik.out; have := hklH.out; have := hbH.out; simp [intOf]; omega
    · have dk : decide ((i : Int) < (b : Int)) = false := decide_eq_false (by omega)
      have dk2 : decide (i < b) = false := decide_eq_false (by omega)
      have hf := Lib.hid (hend.out k Z wr (by omega) hI.out)
      clear hkl hk1 hk2 hl1 hl2 hI hi hb1
      go_wp2_with fail
      go_end0
      exact ⟨rfl, hf.out, hO.out⟩
end Go.Proofs.Ythdgfchmglkpaaa
