/-
  All keys of a book, count by count; of one that is none, too. Premises: a book as it lies, of at most a million keys.
-/
import Derived.Test.YtpbmgaipeofpaaaNC
namespace Go.Proofs.Ytpbmgaipeofpaaa
open Go.RowKit
variable {q : Option Value} {w w' : World} {p room n : Nat} {cm rm : Option Nat} {rv : Value} {c : Cd} {r : Rw} {R OC OR O : List Nat} {T : List ByteArray} {F : Int → List ByteArray}

theorem Rows'.short (h : Rows' w rm r OR) (m : Int) : (keysR r m).length ≤ 1000000 := by
  cases hr : r m with
  | none => rw [keysR_none hr]; simp
  | some q =>
    obtain ⟨b, R', K⟩ := q
    rw [keysR_at hr]
    obtain ⟨u, hu⟩ := h.row m b R' K hr
    exact hu.few
theorem uptoG_short {F : Int → List ByteArray} (h : ∀ m, (F m).length ≤ 1000000) (i : Nat) : (uptoG F i).length ≤ i * 1000000 := by
  induction i with
  | zero => simp [uptoG]
  | succ i ih =>
    rw [uptoG_succ, List.length_append]
    have := h ((i : Int) + 1)
    omega
set_option maxHeartbeats 4000000 in
theorem ball_nil (w : World) : Calls Try.prog 22 #[.pointer none] w fun e w' => ∃ v', e = .returned v' ∧ RowT w' w.heap.size v' [] ∧ Only [] w w' := by
  obtain ⟨i0, hi, hz0, hz1, hz2⟩ := info_partsS info_str
  have hLH := Lib.hid (blen_nil w)
  go_enter Try.func22, Try.ntmps22
  go_wp2_with (first
    | (go_at_call 16; (with_reducible refine (hLH.out).mono ?_); rintro e w' ⟨rfl, rfl⟩)
    | (at_make; refine wpList_make_own _ rfl _ _ 39 rfl w.heap.size 9 i0 (.string ⟨#[]⟩) 1 Try.underlying39 hi hz0 hz1 _ _ _ 0 rfl rfl rfl (by rw [hz2]; omega) (by unfold maxLen; omega) (Nat.le_refl _) ?_; intro w1 hown hgrow; have hownH := Lib.hid hown; have hgrowH := Lib.hid hgrow; clear hown hgrow))
  all_goals go_ret
  exact ⟨_, rfl, hownH.out, by simpa using grown_only hgrowH.out⟩
set_option maxHeartbeats 4000000 in
theorem Bk.all (h : Bk q w p c F T n O) : Calls Try.prog 22 #[ptr p] w fun e w' => ∃ v', e = .returned v' ∧ RowT w' w.heap.size v' (uptoG F 255) ∧ Only [] w w' := by
  have hnH := Lib.hid h.few
  have hLH := Lib.hid h.len
  obtain ⟨cm, rm, rv, room, r, R, OC, OR, h1, h2, rfl⟩ := h
  obtain ⟨i0, hi, hz0, hz1, hz2⟩ := info_partsS info_str
  have c1 : w.cell? ⟨p, 1, none⟩ = some (.map rm) := h1.cell 1
  have hsh := Lib.hid (uptoG_short (F := F) (fun m => by rw [← h2]; exact h1.rows.short m))
  have hsF := Lib.hid (fun m => by rw [← h2]; exact h1.rows.short m : ∀ m, (F m).length ≤ 1000000)
  have hrH := Lib.hid (fun (W : World) (ho : Only [] w W) => h1.rows.keep ho (by simp))
  have h2H := Lib.hid h2
  clear h1 h2
  go_enter Try.func22, Try.ntmps22
  go_wp2_with (first
    | (go_at_call 16; (with_reducible refine (hLH.out).mono ?_); rintro e w' ⟨rfl, rfl⟩)
    | (at_make; refine wpList_make_own _ rfl _ _ 39 rfl w.heap.size 9 i0 (.string ⟨#[]⟩) 1 Try.underlying39 hi hz0 hz1 _ _ _ n rfl rfl rfl (by rw [hz2]; have := hnH.out; omega) (by have := hnH.out; unfold maxLen; omega) (Nat.le_refl _) ?_; intro w1 hown hgrow; have hownH := Lib.hid hown; have ho1H : Hid (Only [] w w1) := Lib.hid (by simpa using grown_only hgrow); clear hown hgrow))
  go_loopw [3, 11] (fun s3 s11 wr => ∃ (i : Nat) (v3 : Value), i ≤ 255 ∧ s11 = .int .i64 i ∧ v3 = s3 ∧ Hid (RowT wr w.heap.size v3 (uptoG F i)) ∧ Hid (Only [] w wr)) (fun _ s11 _ => 255 - (intOf s11).toNat)
  case atStart => exact ⟨0, _, by omega, rfl, rfl, Lib.hid hownH.out, Lib.hid ho1H.out⟩
  case round =>
    obtain ⟨i, v3, hi2, rfl, rfl, hR, hon⟩ := hrel
    by_cases hil : i < 255
    · have hw1 := wrap_small (x := (i : Int) + 1) (by omega)
      have hlt : decide ((i : Int) < 255) = true := decide_eq_true (by omega)
      have hrr := hrH.out wr hon.out
      have hlk : (Instr.lookup 50 (.map rm) (.int .i64 ((i : Int) + 1)) false).run Try.prog wr = .ok (ptrV ((r ((i : Int) + 1)).map Prod.fst)) wr := hrr.look ((i : Int) + 1) (by omega) false
      have c1r := cell_keep hon.out c1
      have hO := hrr.all ((i : Int) + 1)
      rw [h2H.out] at hO
      have hilH := Lib.hid hil
      clear hil hrr
      generalize ptrV ((r ((i : Int) + 1)).map Prod.fst) = v at *
      have hOH := Lib.hid hO
      clear hO
      obtain ⟨G, hG⟩ : ∃ G, G = uptoG F i := ⟨_, rfl⟩
      obtain ⟨M, hM⟩ : ∃ M, M = F ((i : Int) + 1) := ⟨_, rfl⟩
      have hGl : Hid (G.length + M.length ≤ 8000000000000) := Lib.hid (by have := hsh.out i; have := hsF.out ((i : Int) + 1); have := hilH.out; rw [hG, hM]; omega)
      have hGM : Hid (uptoG F (i + 1) = G ++ M) := Lib.hid (by rw [uptoG_succ, hG, hM])
      rw [← hG] at hR
      rw [← hM] at hOH
      clear hG hM
      go_wp2_with (first
        | (go_at_call 32; (with_reducible refine (hOH.out).mono ?_); rintro e w4 ⟨v4, rfl, hR4, ho4⟩; have hR4H := Lib.hid hR4; have ho4H := Lib.hid ho4; clear hR4 ho4)
        | (at_builtin; refine wpList_append_rowT (o := ⟨some 23, _, _, _, _, _⟩) (by rfl) (.tmp 14) (.tmp 22) (by rfl) w.heap.size wr.heap.size v3 v4 G M (by rfl) (by rfl) (hR.out.same ho4H.out) hR4H.out hGl.out (by have := hon.out.size; have := ho4H.out.size; omega) ?_; intro v7 w7 hR7 hO7 hv7; have hR7H := Lib.hid hR7; have hO7H := Lib.hid (own_newS hO7 (hon.out.trans ho4H.out (by simp)) (fun x hx => (hR.out.lt x hx).1)); clear hR7 hO7 hv7))
      go_roundw
      case rel => exact ⟨i + 1, v7, by have := hilH.out; omega, by go_num, rfl, Lib.hid (by rw [hGM.out]; exact hR7H.out), hO7H⟩
      case measure => have := hilH.out; simp [intOf]; omega
    · have hin : i = 255 := by omega
      have hlt : decide ((i : Int) < 255) = false := decide_eq_false (by omega)
      have hR2 := hR.out
      rw [hin] at hR2
      have hR2H := Lib.hid hR2
      clear hin hil hR2 hR
      go_wp2_with fail
      go_ret
      exact ⟨_, rfl, hR2H.out, hon.out⟩
end Go.Proofs.Ytpbmgaipeofpaaa
