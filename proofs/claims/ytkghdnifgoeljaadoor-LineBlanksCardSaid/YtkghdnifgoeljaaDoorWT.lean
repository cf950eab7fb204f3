/-
  The walk of the law that what is joined is split. A premise: the library's variable ErrSyntax holds an error, or none.
-/
import Derived.Test.YtkghdnifgoeljaaDoorWQ
import Derived.Test.YtkghdnifgoeljaaDoorMathC
namespace Go.Proofs.YtkghdnifgoeljaaDoor
open Go.RowKit Ln

theorem total_tot (ss : List ByteArray) : tot (txt ss) = total ss + ss.length := by
  unfold tot total txt
  rw [List.map_map, List.length_map]
  have e : List.map ((fun x : List UInt8 => x.length) ∘ fun s : ByteArray => s.data.toList) ss = ss.map (·.size) := by
    apply List.map_congr_left
    intro a _
    simp
  rw [e]
theorem total_mem {ss : List ByteArray} {x : ByteArray} (h : x ∈ ss) : x.size ≤ total ss := by
  induction ss with
  | nil => cases h
  | cons a ss ih =>
    have e : total (a :: ss) = a.size + total ss := by simp [total]
    rcases List.mem_cons.1 h with rfl | h
    · omega
    · have := ih h; omega
theorem joined_len (ss : List ByteArray) : (joinF (txt ss)).length ≤ 4 * total ss + 3 * ss.length := by
  induction ss with
  | nil => simp [txt, joinF]
  | cons a ss ih =>
    have ht := tok_len a.data.toList
    have hl : a.data.toList.length = a.size := by simp
    have e : total (a :: ss) = a.size + total ss := by simp [total]
    cases ss with
    | nil =>
      simp only [txt, List.map_cons, List.map_nil, joinF, List.length_cons, List.length_nil] at ih ⊢
      omega
    | cons b ss =>
      have : joinF (txt (a :: b :: ss)) = tok a.data.toList ++ 32 :: joinF (txt (b :: ss)) := rfl
      rw [this, List.length_append, List.length_cons]
      simp only [List.length_cons] at ih ⊢
      omega
/-- The texts of a list of lists of bytes. -/
def mkT (l : List (List UInt8)) : List ByteArray := l.map fun x => ⟨x.toArray⟩
theorem txt_mk (l : List (List UInt8)) : txt (mkT l) = l := by
  unfold txt mkT
  rw [List.map_map]
  conv => rhs; rw [← List.map_id l]
  apply List.map_congr_left
  intro a _
  rfl
/-- A row of one text that is built. -/
theorem far_one (s : ByteArray) (w : World) (F : Bool) (hF : Hid (farL [s] = F)) : Calls Tryd.prog 7 #[.slice (some ⟨w.heap.size, 0, none⟩) 1 1] (w.alloc (.cells #[.string s] 9)) fun e w' => e = .returned (.bool F) ∧ w.alloc (.cells #[.string s] 9) = w' :=
  far_any (some ⟨w.heap.size, 0, none⟩) 1 [s] (w.alloc (.cells #[.string s] 9)) (SB.new w [s]).rr (show 1 ≤ 140737488355328 by decide) F hF
theorem far_one_size {s : ByteArray} (h : farL [s] = false) : s.size ≤ 2000 := (far_not h).1 s (by simp)
theorem str_size (l : List UInt8) : (⟨l.toArray⟩ : ByteArray).size = l.length := by
  show l.toArray.size = _
  exact List.size_toArray ..

set_option maxRecDepth 100000 in
set_option maxHeartbeats 4000000 in
theorem back_any (A : Option Addr) (c : Nat) (ss : List ByteArray) (s : ByteArray) (w : World) (hl : ss.length ≤ 140737488355328) (hr : SB w w.heap.size A ss) (hE : ErrAt w) :
    Calls Tryd.prog 5 #[.slice A ss.length c, .string s] w fun e w' => e = .returned (.bool true) ∧ Below w.heap.size w w' := by
  have hEH := Lib.hid hE
  have hrH := Lib.hid hr
  clear hE hr
  cases hF : farL ss with
  | true =>
    have hFH := Lib.hid hF
    clear hF
    go_enter Tryd.func5, Tryd.ntmps5
    go_wp2_with (first
      | (go_at_call 7; ((with_reducible refine (far_any A c ss _ hrH.out.rr hl true hFH).mono ?_); rintro e w' ⟨rfl, rfl⟩))
      | (go_at_call 8; ((with_reducible refine (alive_any _ hEH).mono ?_); rintro e w1 ⟨rfl, hb1⟩)))
    go_ret
    exact ⟨rfl, hb1⟩
  | false =>
    have hFH := Lib.hid hF
    have hb0 : Below w.heap.size w (w.alloc (.cells #[.string s] 9)) := (Below.refl _ _).alloc (Nat.le_refl _) _
    cases hG : farL [s] with
    | true =>
      have hGH := Lib.hid hG
      have hE0 := Lib.hid (hEH.out.on hb0)
      clear hF hG
      go_enter Tryd.func5, Tryd.ntmps5
      go_wp2_with (first
        | (go_at_call 7; ((with_reducible refine (far_any A c ss _ hrH.out.rr hl false hFH).mono ?_); rintro e w' ⟨rfl, rfl⟩))
        | (go_at_call 7; ((with_reducible refine (far_one s _ true hGH).mono ?_); rintro e w' ⟨rfl, rfl⟩))
        | (go_at_call 8; ((with_reducible refine (alive_any _ hE0).mono ?_); rintro e w1 ⟨rfl, hb1⟩)))
      go_ret
      exact ⟨rfl, onB hb0 hb1⟩
    | false =>
      have hGH := Lib.hid hG
      have hs := far_one_size hG
      obtain ⟨f1, f2, f3⟩ := far_not hF
      have hz : Hid (∀ x ∈ ss, x.size ≤ 65536) := Lib.hid fun x hx => Nat.le_trans (f1 x hx) (by decide)
      have hj := joined_len ss
      have hj2 : (joinF (txt ss)).length ≤ 65536 := by omega
      obtain ⟨tb, htb⟩ : ∃ tb : ByteArray, tb = ⟨(joinF (txt ss)).toArray⟩ := ⟨_, rfl⟩
      have htd : Hid (tb.data.toList = joinF (txt ss)) := Lib.hid (by rw [htb])
      have hts : tb.size ≤ 65536 := by rw [htb, str_size]; exact hj2
      have hJ : Hid (∀ W, SB W W.heap.size A ss → Calls Tryd.prog 12 #[.slice A ss.length c] W fun e w' => e = .returned (.string tb) ∧ Below W.heap.size W w') := Lib.hid (by
        rw [htb]
        exact fun W h => join_any A c ss W (by omega) hz (by omega) h)
      have hS1 := Lib.hid (fun W hE' => split_yes tb ss W hts hE' (by rw [htd.out]; exact spl_join _))
      have hcalm : Hid (∀ (k : Nat) (h : k < tb.size), tb[k] ≠ 10 ∧ tb[k] ≠ 13) := Lib.hid (fun k h => by
        have hm : tb[k] ∈ tb.data.toList := by
          have := str_cons tb k h
          exact List.mem_of_mem_drop (by rw [this]; simp)
        rw [htd.out] at hm
        exact join_calm _ _ hm)
      have hssl : ss.length ≤ 100 := f2
      clear hF hG f1 f2 f3 hj hj2 htb htd hz
      go_enter Tryd.func5, Tryd.ntmps5
      go_wp2_with (first
        | (go_at_call 7; ((with_reducible refine (far_any A c ss _ hrH.out.rr hl false hFH).mono ?_); rintro e w' ⟨rfl, rfl⟩))
        | (go_at_call 7; ((with_reducible refine (far_one s _ false hGH).mono ?_); rintro e w' ⟨rfl, rfl⟩))
        | (go_at_call 12; ((with_reducible refine (hJ.out _ (hrH.out.on hb0)).mono ?_); rintro e w1 ⟨rfl, hb1⟩; have hW1 := onB hb0 hb1))
        | (go_at_call 9; ((with_reducible refine (hS1.out _ (hEH.out.on hW1)).mono ?_); rintro e w2 ⟨A2, cap2, rfl, hR2, hb2⟩; have hW2 := onB hW1 hb2))
        | (go_at_call 11; ((with_reducible refine (same_any A2 A cap2 c ss _ (by omega) hR2.rr (hrH.out.on hW2).rr).mono ?_); rintro e w3 ⟨rfl, n, rfl⟩)))
      have hW3 := below_drewN hW2 n
      clear hb0 hb1 hW1 hb2 hW2 hR2
      generalize w2.drewN n = w3 at hW3 ⊢
      go_loop [38] (fun i => ∃ k : Nat, i = .int .i64 k ∧ k ≤ tb.size) (fun i => tb.size - (intOf i).toNat)
      case atStart => exact ⟨0, rfl, by omega⟩
      case round =>
        obtain ⟨k, rfl, hk⟩ := hrel
        by_cases hlt : k < tb.size
        · have hcc := hcalm.out k hlt
          have x1 : ((tb[k].toNat : Int) == 10) = false := beq_eq_false_iff_ne.2 fun e => hcc.1 (byte_of (n := 10) (by decide) e)
          have x2 : ((tb[k].toNat : Int) == 13) = false := beq_eq_false_iff_ne.2 fun e => hcc.2 (byte_of (n := 13) (by decide) e)
          clear hcc
          go_wp2_with fail
          go_round
          case rel => exact ⟨k + 1, by go_num, by omega⟩
          case measure => simp [intOf]; omega
        · have hE3 := Lib.hid (hEH.out.on hW3)
          cases hsp : spl s.data.toList with
          | none =>
            have hN := Lib.hid (split_no s w3 (by omega) hE3.out hsp)
            clear hsp
            go_wp2_with (first
              | (go_at_call 9; ((with_reducible refine hN.out.mono ?_); rintro e w4 ⟨rfl, hb4⟩; have hW4 := onB hW3 hb4))
              | (go_at_call 8; ((with_reducible refine (alive_any _ (Lib.hid (hEH.out.on hW4))).mono ?_); rintro e w5 ⟨rfl, hb5⟩)))
            go_ret
            exact ⟨rfl, onB hW4 hb5⟩
          | some l =>
            have hlen := spl_len hsp
            have hsl : s.data.toList.length = s.size := by simp
            have hY := Lib.hid (split_yes s (mkT l) w3 (by omega) hE3.out (by rw [hsp, txt_mk]))
            have hlt2 : total (mkT l) + (mkT l).length ≤ 4000 := by
              rw [← total_tot, txt_mk]; omega
            generalize mkT l = sl at hY hlt2
            clear hsp hlen hsl
            have hj := joined_len sl
            have hj2 : (joinF (txt sl)).length ≤ 65536 := by omega
            have hz2 : Hid (∀ x ∈ sl, x.size ≤ 65536) := Lib.hid fun x hx => by have := total_mem hx; omega
            obtain ⟨ub, hub⟩ : ∃ ub : ByteArray, ub = ⟨(joinF (txt sl)).toArray⟩ := ⟨_, rfl⟩
            have hud : Hid (ub.data.toList = joinF (txt sl)) := Lib.hid (by rw [hub])
            have hus : ub.size ≤ 65536 := by rw [hub, str_size]; exact hj2
            have hJ2 : Hid (∀ (A' : Option Addr) (c' : Nat) (W : World), SB W W.heap.size A' sl → Calls Tryd.prog 12 #[.slice A' sl.length c'] W fun e w' => e = .returned (.string ub) ∧ Below W.heap.size W w') := Lib.hid (by
              rw [hub]
              exact fun A' c' W h => join_any A' c' sl W (by omega) hz2 (by omega) h)
            have hS2 := Lib.hid (fun W hE' => split_yes ub sl W hus hE' (by rw [hud.out]; exact spl_join _))
            have hsll : sl.length ≤ 140737488355328 := by omega
            clear hub hud hj hj2 hz2 hlt2
            go_wp2_with (first
              | (go_at_call 9; ((with_reducible refine hY.out.mono ?_); rintro e w4 ⟨A4, cap4, rfl, hR4, hb4⟩; have hW4 := onB hW3 hb4))
              | (go_at_call 12; ((with_reducible refine (hJ2.out A4 cap4 _ hR4).mono ?_); rintro e w5 ⟨rfl, hb5⟩; have hW5 := onB hW4 hb5; have hR5 := hR4.on hb5))
              | (go_at_call 9; ((with_reducible refine (hS2.out _ (hEH.out.on hW5)).mono ?_); rintro e w6 ⟨A6, cap6, rfl, hR6, hb6⟩; have hW6 := onB hW5 hb6; have hR56 := hR5.on hb6))
              | (go_at_call 11; ((with_reducible refine (same_any A4 A6 cap4 cap6 sl _ hsll hR56.rr hR6.rr).mono ?_); rintro e w7 ⟨rfl, m, rfl⟩; have hW7 := below_drewN hW6 m))
              | (go_at_call 8; ((with_reducible refine (alive_any _ (Lib.hid (hEH.out.on hW7))).mono ?_); rintro e w8 ⟨rfl, hb8⟩)))
            go_ret
            exact ⟨rfl, onB hW7 hb8⟩
end Go.Proofs.YtkghdnifgoeljaaDoor
