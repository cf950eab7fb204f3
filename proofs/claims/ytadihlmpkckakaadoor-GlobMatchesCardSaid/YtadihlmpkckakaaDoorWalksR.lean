/-
  The walk of the law of runs at either end of a pattern. No condition.
-/
import Derived.Test.YtadihlmpkckakaaDoorWalksO
import Derived.Deep.RegionHeld3
import Derived.Deep.RegionWith
import Derived.Deep.Cut
import Derived.Deep.CutRange
import Derived.Deep.CutBlock
namespace Go.Proofs.YtadihlmpkckakaaDoor
open Go.RowKit Gl

theorem last_at {P : ByteArray} (h : 0 < P.size) (h2 : ¬ (P[P.size - 1].toNat : Int) = 92) : P.data.toList.getLast? ≠ some 92 := by
  have hl : P.data.toList.length = P.size := by simp
  rw [List.getLast?_eq_getElem?, hl, byte_at P (P.size - 1) (by omega)]
  intro e
  exact h2 (by rw [Option.some.inj e]; rfl)
theorem last_none {P : ByteArray} (h : P.size = 0) : P.data.toList.getLast? ≠ some 92 := by
  have hl : P.data.toList.length = 0 := by simpa using h
  rw [List.eq_nil_of_length_eq_zero hl]
  simp
/-- What is put within runs: the two patterns of the law. -/
structure InRuns (p : ByteArray) : Prop where
  tame : Tame p.data.toList
  small : p.size ≤ 1000
theorem inRuns_closed {P : ByteArray} (hp : P.size ≤ 300) (h : P.data.toList.getLast? ≠ some 92) : InRuns (P ++ ⟨#[93]⟩) := by
  refine ⟨?_, by rw [ByteArray.size_append]; have : (⟨#[93]⟩ : ByteArray).size = 1 := rfl; omega⟩
  rw [ByteArray.data_append, Array.toList_append]
  exact tame_closed h
theorem inRuns_quote {P q : ByteArray} (hp : P.size ≤ 300) (hq : (⟨(quote P.data.toList).toArray⟩ : ByteArray) = q) : InRuns q := by
  subst hq
  have h1 := quote_len P.data.toList
  have h2 : P.data.toList.length = P.size := by simp
  refine ⟨tame_quote _, ?_⟩
  show (quote P.data.toList).toArray.size ≤ 1000
  rw [List.size_toArray]
  omega

theorem boxed_below (P a b c : ByteArray) (w : World) : Below w.heap.size w ((w.alloc (.cells #[.string a, .string b, .string c] 33)).alloc (.cells #[.string P, .string a, .string b, .string c] 9)) :=
  ((Below.refl _ _).alloc (Nat.le_refl _) _).alloc (by simp) _
theorem boxed_blk (P a b c : ByteArray) (w : World) : Blk ((w.alloc (.cells #[.string a, .string b, .string c] 33)).alloc (.cells #[.string P, .string a, .string b, .string c] 9)) w.heap.size 33 #[.string a, .string b, .string c] :=
  (Blk.new _ _ _).alloc _
theorem far_boxed (P a b c : ByteArray) (w : World) (F : Bool) (hF : Hid (farL [P, a, b, c] = F)) :
    Calls Tryd.prog 7 #[.slice (some ⟨w.heap.size + 1, 0, none⟩) 4 4] ((w.alloc (.cells #[.string a, .string b, .string c] 33)).alloc (.cells #[.string P, .string a, .string b, .string c] 9)) fun e w' =>
      e = .returned (.bool F) ∧ (w.alloc (.cells #[.string a, .string b, .string c] 33)).alloc (.cells #[.string P, .string a, .string b, .string c] 9) = w' := by
  have h := far_four P a b c (w.alloc (.cells #[.string a, .string b, .string c] 33)) F hF
  have e : (w.alloc (.cells #[.string a, .string b, .string c] 33)).heap.size = w.heap.size + 1 := by simp
  rwa [e] at h

theorem last_is {P : ByteArray} (h : 0 < P.size) (h2 : (P[P.size - 1].toNat : Int) = 92) : P.data.toList.getLast? = some 92 := by
  have hl : P.data.toList.length = P.size := by simp
  rw [List.getLast?_eq_getElem?, hl, byte_at P (P.size - 1) (by omega), byte_of (c := P[P.size - 1]) (n := 92) (by decide) h2]
  rfl

theorem one_of_two {wr : World} {g k : Nat} {C q : ByteArray} (hg : Blk wr g 9 #[.string C, .string q]) (h1 : InRuns C) (h2 : InRuns q) (hk : k < 2) : ∃ p : ByteArray, wr.cell? ⟨g, k, none⟩ = some (.string p) ∧ InRuns p := by
  have h := hg.cell k
  rcases Nat.eq_zero_or_pos k with h0 | h0
  · subst h0; exact ⟨C, h, h1⟩
  · obtain rfl : k = 1 := by omega
    exact ⟨q, h, h2⟩
theorem runs_m2 {p a b c : ByteArray} (ht : Tame p.data.toList) (h : mt (parts p.data.toList) b.data.toList = true) : mt (parts ((⟨#[42]⟩ : ByteArray) ++ p ++ ⟨#[42]⟩).data.toList) (a ++ b ++ c).data.toList = true := by
  simp only [ByteArray.data_append, Array.toList_append]
  exact runs_both ht h
theorem runs_m3 {p a b : ByteArray} (h : mt (parts p.data.toList) b.data.toList = true) : mt (parts ((⟨#[42, 42]⟩ : ByteArray) ++ p).data.toList) (a ++ b).data.toList = true := by
  simp only [ByteArray.data_append, Array.toList_append]
  exact runs_two h
theorem runs_m4 (a : ByteArray) : mt (parts (⟨#[42]⟩ : ByteArray).data.toList) a.data.toList = true := by
  show mt (parts [42]) a.data.toList = true
  rw [parts_star, parts_nil, mt_run_any]
theorem runs_m5 (a : ByteArray) : mt (parts (⟨#[]⟩ : ByteArray).data.toList) a.data.toList = a.toList.isEmpty := by
  show mt (parts []) a.data.toList = _
  rw [parts_nil, mt_nil, Lib.toList_data]
theorem one_size (x : UInt8) : (⟨#[x]⟩ : ByteArray).size = 1 := rfl
theorem two_size (x y : UInt8) : (⟨#[x, y]⟩ : ByteArray).size = 2 := rfl
theorem runs_z2 {p : ByteArray} (h : p.size ≤ 1000) : ((⟨#[42]⟩ : ByteArray) ++ p ++ ⟨#[42]⟩).size ≤ 65536 := by
  rw [ByteArray.size_append, ByteArray.size_append, one_size]; omega
theorem runs_z3 {p : ByteArray} (h : p.size ≤ 1000) : ((⟨#[42, 42]⟩ : ByteArray) ++ p).size ≤ 65536 := by
  rw [ByteArray.size_append, two_size]; omega
theorem runs_z4 {a b c : ByteArray} (ha : a.size ≤ 300) (hb : b.size ≤ 300) (hc : c.size ≤ 300) : (a ++ b ++ c).size ≤ 65536 := by
  rw [ByteArray.size_append, ByteArray.size_append]; omega
theorem runs_z5 {a b : ByteArray} (ha : a.size ≤ 300) (hb : b.size ≤ 300) : (a ++ b).size ≤ 65536 := by
  rw [ByteArray.size_append]; omega

set_option maxRecDepth 100000 in
set_option maxHeartbeats 2000000 in
theorem runs_main (P a b c : ByteArray) (w : World) (hp : P.size ≤ 300) (ha : a.size ≤ 300) (hb : b.size ≤ 300) (hc : c.size ≤ 300) (hFH : Hid (farL [P, a, b, c] = false)) (hlast0 : P.data.toList.getLast? ≠ some 92) :
    Calls Tryd.prog 6 #[.string P, .agg #[.string a, .string b, .string c]] w fun e w' => e = .returned (.bool true) ∧ Below w.heap.size w w' := by
  have hlast := Lib.hid hlast0
  have hbel := boxed_below P a b c w
  have hblk := boxed_blk P a b c w
  obtain ⟨q, hq⟩ : ∃ q : ByteArray, Hid ((⟨(quote P.data.toList).toArray⟩ : ByteArray) = q) := ⟨_, Lib.hid rfl⟩
  have hI1 := Lib.hid (inRuns_closed hp hlast.out)
  have hI2 := Lib.hid (inRuns_quote hp hq.out)
  clear hlast0
  go_enter Tryd.func6, Tryd.ntmps6
  go_upto_region 1 with fail
  go_cut [29] from 8 to 28 (fun s29 wx => s29 = .bool false ∧ wx = (w.alloc (.cells #[.string a, .string b, .string c] 33)).alloc (.cells #[.string P, .string a, .string b, .string c] 9))
  case first =>
    by_cases h0 : 0 < P.size
    · have h92 : ¬ (P[P.size - 1].toNat : Int) = 92 := fun e => hlast.out (last_is h0 e)
      have hx : ((P[P.size - 1].toNat : Int) == 92) = false := by simpa using h92
      clear h92
      go_wp2_with (go_at_call 7; (with_reducible refine (far_boxed P a b c w false hFH).mono ?_); rintro e w' ⟨rfl, rfl⟩)
      go_meet
      case rel => exact ⟨rfl, rfl⟩
    · go_wp2_with (go_at_call 7; (with_reducible refine (far_boxed P a b c w false hFH).mono ?_); rintro e w' ⟨rfl, rfl⟩)
      go_meet
      case rel => exact ⟨rfl, rfl⟩
  case rest =>
    obtain ⟨rfl, rfl⟩ := hcut
    generalize (w.alloc (.cells #[.string a, .string b, .string c] 33)).alloc (.cells #[.string P, .string a, .string b, .string c] 9) = W at hbel hblk ⊢
    go_upto_block 0 with (go_at_call 13; (with_reducible refine (quote_q P q _ (by omega) hq).mono ?_); rintro e w1 ⟨rfl, hbw⟩; replace hbel := on_step hbel hbw; replace hblk := hblk.below hbw hblk.lt; clear hbw)
    have hg : Blk (w1.alloc (.cells #[.string (P ++ ⟨#[93]⟩), .string q] 9)) w1.heap.size 9 #[.string (P ++ ⟨#[93]⟩), .string q] := Blk.new _ _ _
    replace hblk := hblk.alloc (.cells #[.string (P ++ ⟨#[93]⟩), .string q] 9)
    replace hbel := hbel.alloc hbel.size (.cells #[.string (P ++ ⟨#[93]⟩), .string q] 9)
    generalize w1.alloc (.cells #[.string (P ++ ⟨#[93]⟩), .string q] 9) = W1 at hg hblk hbel ⊢
    generalize w1.heap.size = g at hg ⊢
    generalize P ++ ⟨#[93]⟩ = C at hg hI1 ⊢
    go_wp2_with fail
    go_loopw [38] (fun i wr => ∃ k : Nat, k ≤ 2 ∧ i = .int .i64 k ∧ Blk wr g 9 #[.string C, .string q] ∧ Blk wr w.heap.size 33 #[.string a, .string b, .string c] ∧ Below w.heap.size w wr) (fun i _ => 2 - (intOf i).toNat)
    case atStart => exact ⟨0, by omega, rfl, hg, hblk, hbel⟩
    case round =>
      clear hg hblk hbel
      obtain ⟨k, hk, rfl, hg, hblk, hbel⟩ := hrel
      have hc0 : wr.cell? ⟨w.heap.size, 0, none⟩ = some (.string a) := hblk.cell 0
      have hc1 : wr.cell? ⟨w.heap.size, 1, none⟩ = some (.string b) := hblk.cell 1
      have hc2 : wr.cell? ⟨w.heap.size, 2, none⟩ = some (.string c) := hblk.cell 2
      by_cases hlt : k < 2
      · obtain ⟨p, hpc, hIp⟩ := one_of_two hg hI1.out hI2.out hlt
        have hps := hIp.small
        obtain ⟨M, hM⟩ : ∃ M : Bool, Hid (mt (parts p.data.toList) b.data.toList = M) := ⟨_, Lib.hid rfl⟩
        cases M with
        | true =>
          have hM2 := Lib.hid (runs_m2 (a := a) (c := c) hIp.tame hM.out)
          have hM3 := Lib.hid (runs_m3 (a := a) hM.out)
          have z2 := runs_z2 hps
          have z3 := runs_z3 hps
          have z4 := runs_z4 ha hb hc
          have z5 := runs_z5 ha hb
          clear hIp
          go_wp2_with (first
            | (go_at_call 9; (with_reducible refine (match_any p b _ (by omega) (by omega) true hM).mono ?_); rintro e w' ⟨rfl, n, rfl⟩)
            | (go_at_call 9; (with_reducible refine (match_any _ _ _ z2 z4 true hM2).mono ?_); rintro e w' ⟨rfl, n, rfl⟩)
            | (go_at_call 9; (with_reducible refine (match_any _ _ _ z3 z5 true hM3).mono ?_); rintro e w' ⟨rfl, n, rfl⟩))
          go_roundw
          case rel => exact ⟨k + 1, by omega, by go_num, hg.drewN _, hblk.drewN _, below_drewN hbel _⟩
          case measure => simp [intOf]; omega
        | false =>
          clear hIp
          go_wp2_with (go_at_call 9; (with_reducible refine (match_any p b _ (by omega) (by omega) false hM).mono ?_); rintro e w' ⟨rfl, n, rfl⟩)
          go_roundw
          case rel => exact ⟨k + 1, by omega, by go_num, hg.drewN _, hblk.drewN _, below_drewN hbel _⟩
          case measure => simp [intOf]; omega
      · have hM4 := Lib.hid (runs_m4 a)
        have hM5 := Lib.hid (runs_m5 a)
        have hz : w.heap.size ≤ wr.heap.size := hbel.size
        go_wp2_with fail
        go_region_with ((first
          | (go_at_call 9; (with_reducible refine (match_any _ a _ (by decide) (by omega) true hM4).mono ?_); rintro e w' ⟨rfl, n, rfl⟩)
          | (go_at_call 9; (with_reducible refine (match_any _ a _ (by decide) (by omega) _ hM5).mono ?_); rintro e w' ⟨rfl, n, rfl⟩)
          | (go_at_call 8; (with_reducible refine (alive_any _).mono ?_); rintro e w' ⟨rfl, hbw⟩)))
        all_goals
          go_wp2_with fail
          go_ret
          exact ⟨rfl, on_step (below_drewN hbel _) hbw⟩

set_option maxHeartbeats 2000000 in
theorem runs_walk (P a b c : ByteArray) (w : World) : Calls Tryd.prog 6 #[.string P, .agg #[.string a, .string b, .string c]] w fun e w' => e = .returned (.bool true) ∧ Below w.heap.size w w' := by
  cases hF : farL [P, a, b, c] with
  | true =>
    have hFH := Lib.hid hF
    clear hF
    go_enter Tryd.func6, Tryd.ntmps6
    go_wp2_with (first
      | (go_at_call 7; (with_reducible refine (far_boxed P a b c w true hFH).mono ?_); rintro e w' ⟨rfl, rfl⟩)
      | (go_at_call 8; (with_reducible refine (alive_any _).mono ?_); rintro e w1 ⟨rfl, hb1⟩))
    go_ret
    exact ⟨rfl, on_step (boxed_below P a b c w) hb1⟩
  | false =>
    have hn := far_not hF
    have hp : P.size ≤ 300 := hn.1 P (by simp)
    have ha : a.size ≤ 300 := hn.1 a (by simp)
    have hb : b.size ≤ 300 := hn.1 b (by simp)
    have hc : c.size ≤ 300 := hn.1 c (by simp)
    have hFH := Lib.hid hF
    clear hF hn
    by_cases h0 : 0 < P.size
    · by_cases h92 : (P[P.size - 1].toNat : Int) = 92
      · have hx : ((P[P.size - 1].toNat : Int) == 92) = true := by simpa using h92
        clear h92
        go_enter Tryd.func6, Tryd.ntmps6
        go_wp2_with (first
          | (go_at_call 7; (with_reducible refine (far_boxed P a b c w false hFH).mono ?_); rintro e w' ⟨rfl, rfl⟩)
          | (go_at_call 8; (with_reducible refine (alive_any _).mono ?_); rintro e w1 ⟨rfl, hb1⟩))
        go_ret
        exact ⟨rfl, on_step (boxed_below P a b c w) hb1⟩
      · have hlast := last_at h0 h92
        exact runs_main P a b c w hp ha hb hc hFH hlast
    · exact runs_main P a b c w hp ha hb hc hFH (last_none (by omega))

end Go.Proofs.YtadihlmpkckakaaDoor
