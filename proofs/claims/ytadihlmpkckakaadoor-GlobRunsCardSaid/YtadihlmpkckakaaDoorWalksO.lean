/-
  The walks of two of the laws: whether any text matches any pattern; what a quoted text and a plain pattern are matched by. No condition but the lengths that Go's own strings have.
-/
import Derived.Test.YtadihlmpkckakaaDoorWalksN
namespace Go.Proofs.YtadihlmpkckakaaDoor
open Go.RowKit Gl

theorem far_new (w : World) (ss : List ByteArray) (n : Nat) (hn : ss.length = n) (hl : n ≤ 100000) (F : Bool) (hF : Hid (farL ss = F)) :
    Calls Tryd.prog 7 #[.slice (some ⟨w.heap.size, 0, none⟩) n n] (w.alloc (.cells (ss.map Value.string).toArray 9)) fun e w' => e = .returned (.bool F) ∧ (w.alloc (.cells (ss.map Value.string).toArray 9)) = w' := by
  subst hn
  refine far_any _ ss.length ss _ (fun i x hx => ⟨_, rfl, ?_⟩) (by omega) F hF
  exact new_cells w (ss.map Value.string).toArray i (.string x) (by simp [hx])
theorem far_one (P : ByteArray) (w : World) (F : Bool) (hF : Hid (farL [P] = F)) :
    Calls Tryd.prog 7 #[.slice (some ⟨w.heap.size, 0, none⟩) 1 1] (w.alloc (.cells #[.string P] 9)) fun e w' => e = .returned (.bool F) ∧ w.alloc (.cells #[.string P] 9) = w' := far_new w [P] 1 rfl (by decide) F hF
theorem far_two (P S : ByteArray) (w : World) (F : Bool) (hF : Hid (farL [P, S] = F)) :
    Calls Tryd.prog 7 #[.slice (some ⟨w.heap.size, 0, none⟩) 2 2] (w.alloc (.cells #[.string P, .string S] 9)) fun e w' => e = .returned (.bool F) ∧ w.alloc (.cells #[.string P, .string S] 9) = w' := far_new w [P, S] 2 rfl (by decide) F hF
theorem far_four (P a b c : ByteArray) (w : World) (F : Bool) (hF : Hid (farL [P, a, b, c] = F)) :
    Calls Tryd.prog 7 #[.slice (some ⟨w.heap.size, 0, none⟩) 4 4] (w.alloc (.cells #[.string P, .string a, .string b, .string c] 9)) fun e w' => e = .returned (.bool F) ∧ w.alloc (.cells #[.string P, .string a, .string b, .string c] 9) = w' := far_new w [P, a, b, c] 4 rfl (by decide) F hF

set_option maxHeartbeats 1000000 in
theorem matches_walk (P S : ByteArray) (w : World) : Calls Tryd.prog 3 #[.string P, .string S] w fun e w' => e = .returned (.bool true) ∧ Below w.heap.size w w' := by
  cases hF : farL [P, S] with
  | true =>
    have hFH := Lib.hid hF
    clear hF
    go_enter Tryd.func3, Tryd.ntmps3
    go_wp2_with (first
      | (go_at_call 7; (with_reducible refine (far_two P S _ true hFH).mono ?_); rintro e w' ⟨rfl, rfl⟩)
      | (go_at_call 8; (with_reducible refine (alive_any _).mono ?_); rintro e w1 ⟨rfl, hb1⟩))
    go_ret
    exact ⟨rfl, ((Below.refl _ _).alloc (Nat.le_refl _) _).trans (hb1.mono (by simp))⟩
  | false =>
    have hn := far_not hF
    have hp : P.size ≤ 65536 := by have := hn.1 P (by simp); omega
    have hs : S.size ≤ 65536 := by have := hn.1 S (by simp); omega
    have hFH := Lib.hid hF
    obtain ⟨M, hM⟩ : ∃ M : Bool, Hid (mt (parts P.data.toList) S.data.toList = M) := ⟨_, Lib.hid rfl⟩
    clear hF hn
    go_enter Tryd.func3, Tryd.ntmps3
    go_wp2_with (first
      | (go_at_call 7; (with_reducible refine (far_two P S _ false hFH).mono ?_); rintro e w' ⟨rfl, rfl⟩)
      | (go_at_call 9; (with_reducible refine (match_any P S _ hp hs M hM).mono ?_); rintro e w' ⟨rfl, n, rfl⟩)
      | (go_at_call 10; (with_reducible refine (rmatch_any P S _ hp hs M hM).mono ?_); rintro e w1 ⟨rfl, hb1⟩)
      | (go_at_call 8; (with_reducible refine (alive_any _).mono ?_); rintro e w2 ⟨rfl, hb2⟩))
    go_ret
    exact ⟨rfl, ((below_drewN ((Below.refl _ _).alloc (Nat.le_refl _) _) _).trans (hb1.mono (by simp))).trans (hb2.mono (Nat.le_trans (by simp) hb1.size))⟩

theorem on_step {w W W' : World} (h : Below w.heap.size w W) (hb : Below W.heap.size W W') : Below w.heap.size w W' := h.trans (hb.mono h.size)
theorem size_of_list {s t : ByteArray} (h : s.data.toList = t.data.toList) : s = t := by cases s; cases t; congr 1; exact Array.toList_inj.1 h
theorem quote_size {s q : ByteArray} (hs : s.size ≤ 300) (hq : (⟨(quote s.data.toList).toArray⟩ : ByteArray) = q) : q.size ≤ 65536 := by
  subst hq
  have h1 := quote_len s.data.toList
  have h2 : s.data.toList.length = s.size := by simp
  show (quote s.data.toList).toArray.size ≤ 65536
  rw [List.size_toArray]
  omega
theorem quote_q (s q : ByteArray) (w : World) (hs : s.size ≤ 65536) (hq : Hid ((⟨(quote s.data.toList).toArray⟩ : ByteArray) = q)) : Calls Tryd.prog 13 #[.string s] w fun e w' => e = .returned (.string q) ∧ Below w.heap.size w w' := by
  have h := quote_any s w hs
  rwa [hq.out] at h
theorem plain_q (s q : ByteArray) (w : World) (hq2 : q.size ≤ 65536) (hq : Hid ((⟨(quote s.data.toList).toArray⟩ : ByteArray) = q)) : Calls Tryd.prog 11 #[.string q] w fun e w' => e = .returned (.tuple #[.string s, .bool true]) ∧ Below w.heap.size w w' := by
  refine (plain_any q w hq2).mono fun e w' ⟨he, hw⟩ => ⟨?_, hw⟩
  have hd : q.data.toList = quote s.data.toList := by rw [← hq.out]
  rw [he]
  unfold plT plB
  rw [hd, bytesOf_quote]
  rfl
theorem mt_q {s q : ByteArray} (hq : (⟨(quote s.data.toList).toArray⟩ : ByteArray) = q) (t : ByteArray) : mt (parts q.data.toList) t.data.toList = (s.toList == t.toList) := by
  have hd : q.data.toList = quote s.data.toList := by rw [← hq]
  rw [hd, mt_quote, Lib.toList_data, Lib.toList_data]
theorem plain_t (t b : ByteArray) (q : Bool) (w : World) (ht : t.size ≤ 65536) (h : Hid (plT t.data.toList = b.data.toList ∧ plB t.data.toList = q)) : Calls Tryd.prog 11 #[.string t] w fun e w' => e = .returned (.tuple #[.string b, .bool q]) ∧ Below w.heap.size w w' := by
  refine (plain_any t w ht).mono fun e w' ⟨he, hw⟩ => ⟨?_, hw⟩
  rw [he, h.out.1, h.out.2]
theorem plain_yes {t b : ByteArray} (h : plT t.data.toList = b.data.toList ∧ plB t.data.toList = true) : parts t.data.toList = b.data.toList.map Part.byte ∧ b.size ≤ t.size := by
  obtain ⟨h1, h2⟩ := h
  unfold plT at h1
  unfold plB at h2
  obtain ⟨l, hl⟩ := Option.isSome_iff_exists.1 h2
  rw [hl] at h1
  have e : l = b.data.toList := h1
  subst e
  refine ⟨bytesOf_some _ _ hl, ?_⟩
  have h3 := bytesOf_len _ _ hl
  have h4 := parts_len t.data.toList
  have h5 : b.data.toList.length = b.size := by simp
  have h6 : t.data.toList.length = t.size := by simp
  omega
theorem mt_plain {t b : ByteArray} (h : parts t.data.toList = b.data.toList.map Part.byte) (s : ByteArray) : mt (parts t.data.toList) s.data.toList = (s.toList == b.toList) := by
  rw [h, mt_bytes, Lib.toList_data, Lib.toList_data, Bool.beq_comm]
theorem mt_plain_self {t b : ByteArray} (h : parts t.data.toList = b.data.toList.map Part.byte) : mt (parts t.data.toList) b.data.toList = true := by
  rw [h, mt_bytes]; simp

set_option maxHeartbeats 2000000 in
theorem alone_walk (s t : ByteArray) (w : World) : Calls Tryd.prog 5 #[.string s, .string t] w fun e w' => e = .returned (.bool true) ∧ Below w.heap.size w w' := by
  cases hF : farL [s, t] with
  | true =>
    have hFH := Lib.hid hF
    clear hF
    go_enter Tryd.func5, Tryd.ntmps5
    go_wp2_with (first
      | (go_at_call 7; (with_reducible refine (far_two s t _ true hFH).mono ?_); rintro e w' ⟨rfl, rfl⟩)
      | (go_at_call 8; (with_reducible refine (alive_any _).mono ?_); rintro e w1 ⟨rfl, hb1⟩))
    go_ret
    exact ⟨rfl, ((Below.refl _ _).alloc (Nat.le_refl _) _).trans (hb1.mono (by simp))⟩
  | false =>
    have hn := far_not hF
    have hs3 : s.size ≤ 300 := hn.1 s (by simp)
    have hs : s.size ≤ 65536 := by omega
    have ht : t.size ≤ 65536 := by have := hn.1 t (by simp); omega
    have hFH := Lib.hid hF
    obtain ⟨q, hq⟩ : ∃ q : ByteArray, Hid ((⟨(quote s.data.toList).toArray⟩ : ByteArray) = q) := ⟨_, Lib.hid rfl⟩
    have hq2 := quote_size hs3 hq.out
    have hM1 := Lib.hid (mt_q hq.out t)
    have hM2 : Hid (mt (parts q.data.toList) s.data.toList = true) := Lib.hid (by rw [mt_q hq.out]; simp)
    obtain ⟨b, hb⟩ : ∃ b : ByteArray, plT t.data.toList = b.data.toList := ⟨⟨(plT t.data.toList).toArray⟩, by simp⟩
    have hOn : Below w.heap.size w (w.alloc (.cells #[.string s, .string t] 9)) := (Below.refl _ _).alloc (Nat.le_refl _) _
    clear hF hn hs3
    cases hpb : plB t.data.toList with
    | false =>
      have hP := Lib.hid (And.intro hb hpb)
      clear hb hpb
      go_enter Tryd.func5, Tryd.ntmps5
      go_wp2_with (first
        | (go_at_call 7; (with_reducible refine (far_two s t _ false hFH).mono ?_); rintro e w' ⟨rfl, rfl⟩)
        | (go_at_call 13; (with_reducible refine (quote_q s q _ hs hq).mono ?_); rintro e w' ⟨rfl, hbw⟩; replace hOn := on_step hOn hbw; clear hbw)
        | (go_at_call 11; (with_reducible refine (plain_q s q _ hq2 hq).mono ?_); rintro e w' ⟨rfl, hbw⟩; replace hOn := on_step hOn hbw; clear hbw)
        | (go_at_call 11; (with_reducible refine (plain_t t b false _ ht hP).mono ?_); rintro e w' ⟨rfl, hbw⟩; replace hOn := on_step hOn hbw; clear hbw)
        | (go_at_call 9; (with_reducible refine (match_any q t _ hq2 ht _ hM1).mono ?_); rintro e w' ⟨rfl, n, rfl⟩; replace hOn := below_drewN hOn n; try rw [World.drewN_drewN] at hOn)
        | (go_at_call 9; (with_reducible refine (match_any q s _ hq2 hs true hM2).mono ?_); rintro e w' ⟨rfl, n, rfl⟩; replace hOn := below_drewN hOn n; try rw [World.drewN_drewN] at hOn)
        | (go_at_call 8; (with_reducible refine (alive_any _).mono ?_); rintro e w' ⟨rfl, hbw⟩; replace hOn := on_step hOn hbw; clear hbw))
      go_ret
      exact ⟨rfl, hOn⟩
    | true =>
      have hy := plain_yes ⟨hb, hpb⟩
      have hP := Lib.hid (And.intro hb hpb)
      have hbs : b.size ≤ 65536 := by omega
      have hM3 := Lib.hid (mt_plain hy.1 s)
      have hM4 := Lib.hid (mt_plain_self hy.1)
      clear hb hpb hy
      go_enter Tryd.func5, Tryd.ntmps5
      go_wp2_with (first
        | (go_at_call 7; (with_reducible refine (far_two s t _ false hFH).mono ?_); rintro e w' ⟨rfl, rfl⟩)
        | (go_at_call 13; (with_reducible refine (quote_q s q _ hs hq).mono ?_); rintro e w' ⟨rfl, hbw⟩; replace hOn := on_step hOn hbw; clear hbw)
        | (go_at_call 11; (with_reducible refine (plain_q s q _ hq2 hq).mono ?_); rintro e w' ⟨rfl, hbw⟩; replace hOn := on_step hOn hbw; clear hbw)
        | (go_at_call 11; (with_reducible refine (plain_t t b true _ ht hP).mono ?_); rintro e w' ⟨rfl, hbw⟩; replace hOn := on_step hOn hbw; clear hbw)
        | (go_at_call 9; (with_reducible refine (match_any q t _ hq2 ht _ hM1).mono ?_); rintro e w' ⟨rfl, n, rfl⟩; replace hOn := below_drewN hOn n; try rw [World.drewN_drewN] at hOn)
        | (go_at_call 9; (with_reducible refine (match_any q s _ hq2 hs true hM2).mono ?_); rintro e w' ⟨rfl, n, rfl⟩; replace hOn := below_drewN hOn n; try rw [World.drewN_drewN] at hOn)
        | (go_at_call 9; (with_reducible refine (match_any t s _ ht hs _ hM3).mono ?_); rintro e w' ⟨rfl, n, rfl⟩; replace hOn := below_drewN hOn n; try rw [World.drewN_drewN] at hOn)
        | (go_at_call 9; (with_reducible refine (match_any t b _ ht hbs true hM4).mono ?_); rintro e w' ⟨rfl, n, rfl⟩; replace hOn := below_drewN hOn n; try rw [World.drewN_drewN] at hOn)
        | (go_at_call 8; (with_reducible refine (alive_any _).mono ?_); rintro e w' ⟨rfl, hbw⟩; replace hOn := on_step hOn hbw; clear hbw))
      go_ret
      exact ⟨rfl, hOn⟩

end Go.Proofs.YtadihlmpkckakaaDoor
