/-
  The walk of the law of quoted texts, plain patterns, and the texts that match. A premise: what the argument's row holds, each text as Go has it.
-/
import Derived.Test.YtadihlmpkckakaaDoorWalksP
namespace Go.Proofs.YtadihlmpkckakaaDoor
open Go.RowKit Gl

theorem rplain_t (t b : ByteArray) (q : Bool) (w : World) (ht : t.size ≤ 65536) (h : Hid (plT t.data.toList = b.data.toList ∧ plB t.data.toList = q)) : Calls Tryd.prog 12 #[.string t] w fun e w' => e = .returned (.tuple #[.string b, .bool q]) ∧ Below w.heap.size w w' := by
  refine (rplain_any t w ht).mono fun e w' ⟨he, hw⟩ => ⟨?_, hw⟩
  rw [he, h.out.1, h.out.2]
theorem rquote_q (s q : ByteArray) (w : World) (hs : s.size ≤ 65536) (hq : Hid ((⟨(quote s.data.toList).toArray⟩ : ByteArray) = q)) : Calls Tryd.prog 14 #[.string s] w fun e w' => e = .returned (.string q) ∧ w = w' := by
  have h := rquote_any s w hs
  rwa [hq.out] at h

set_option maxHeartbeats 2000000 in
theorem quotes_walk (P : ByteArray) (A : Option Addr) (c : Nat) (ss : List ByteArray) (w : World) (hl : ss.length ≤ 9223372036854775807) (hr : SB w w.heap.size A ss) :
    Calls Tryd.prog 4 #[.string P, .slice A ss.length c] w fun e w' => e = .returned (.bool true) ∧ Below w.heap.size w w' := by
  have hOn : Below w.heap.size w (w.alloc (.cells #[.string P] 9)) := (Below.refl _ _).alloc (Nat.le_refl _) _
  cases hF : farL [P] with
  | true =>
    have hFH := Lib.hid hF
    clear hF
    go_enter Tryd.func4, Tryd.ntmps4
    go_wp2_with (first
      | (go_at_call 7; (with_reducible refine (far_one P _ true hFH).mono ?_); rintro e w' ⟨rfl, rfl⟩)
      | (go_at_call 8; (with_reducible refine (alive_any _).mono ?_); rintro e w1 ⟨rfl, hb1⟩))
    go_ret
    exact ⟨rfl, on_step hOn hb1⟩
  | false =>
    have hp : P.size ≤ 65536 := by have := (far_not hF).1 P (by simp); omega
    have hFH := Lib.hid hF
    clear hF
    have hrw := (hr.below hOn).sr
    cases hG : farL ss with
    | true =>
      have hGH := Lib.hid hG
      clear hG
      go_enter Tryd.func4, Tryd.ntmps4
      go_wp2_with (first
        | (go_at_call 7; (with_reducible refine (far_one P _ false hFH).mono ?_); rintro e w' ⟨rfl, rfl⟩)
        | (go_at_call 7; (with_reducible refine (far_any A c ss _ hrw hl true hGH).mono ?_); rintro e w' ⟨rfl, rfl⟩)
        | (go_at_call 8; (with_reducible refine (alive_any _).mono ?_); rintro e w1 ⟨rfl, hb1⟩))
      go_ret
      exact ⟨rfl, on_step hOn hb1⟩
    | false =>
      have hn := far_not hG
      have hsz : Hid (∀ x ∈ ss, x.size ≤ 65536) := Lib.hid (fun x hx => by have := hn.1 x hx; omega)
      have hlen : ss.length ≤ 65536 := by omega
      have hpl : (pick P ss).length ≤ 65536 := Nat.le_trans (List.length_filter_le _ _) hlen
      have hGH := Lib.hid hG
      obtain ⟨q, hq⟩ : ∃ q : ByteArray, Hid ((⟨(quote P.data.toList).toArray⟩ : ByteArray) = q) := ⟨_, Lib.hid rfl⟩
      obtain ⟨b, f, hb⟩ : ∃ (b : ByteArray) (f : Bool), Hid (plT P.data.toList = b.data.toList ∧ plB P.data.toList = f) := ⟨⟨(plT P.data.toList).toArray⟩, _, Lib.hid ⟨by simp, rfl⟩⟩
      clear hG hn
      go_enter Tryd.func4, Tryd.ntmps4
      go_wp2_with (first
        | (go_at_call 7; (with_reducible refine (far_one P _ false hFH).mono ?_); rintro e w' ⟨rfl, rfl⟩)
        | (go_at_call 7; (with_reducible refine (far_any A c ss _ hrw hl false hGH).mono ?_); rintro e w' ⟨rfl, rfl⟩)
        | (go_at_call 11; (with_reducible refine (plain_t P b f _ hp hb).mono ?_); rintro e w' ⟨rfl, hbw⟩; replace hOn := on_step hOn hbw; clear hbw)
        | (go_at_call 12; (with_reducible refine (rplain_t P b f _ hp hb).mono ?_); rintro e w' ⟨rfl, hbw⟩; replace hOn := on_step hOn hbw; clear hbw)
        | (go_at_call 13; (with_reducible refine (quote_q P q _ hp hq).mono ?_); rintro e w' ⟨rfl, hbw⟩; replace hOn := on_step hOn hbw; clear hbw)
        | (go_at_call 14; (with_reducible refine (rquote_q P q _ hp hq).mono ?_); rintro e w' ⟨rfl, rfl⟩)
        | (go_at_call 16; (with_reducible refine (all_any P A c ss _ hp hlen hsz ((hr.below hOn).mono hOn.size)).mono ?_); rintro e w1 ⟨v1, rfl, hown1, hbw⟩; obtain ⟨A1, c1, rfl⟩ := slice_own hown1; have hs1 := sb_own hown1; replace hOn := on_step hOn hbw; clear hbw hown1)
        | (go_at_call 17; (with_reducible refine (rall_any P A c ss _ hp hlen hsz ((hr.below hOn).mono hOn.size)).mono ?_); rintro e w2 ⟨v2, rfl, hown2, hbw⟩; obtain ⟨A2, c2, rfl⟩ := slice_own hown2; have hs2 := sb_own hown2; have hs3 := hs1.below hbw; replace hOn := on_step hOn hbw; clear hbw hown2)
        | (go_at_call 15; (with_reducible refine (same_any A1 A2 c1 c2 (pick P ss) _ hpl hs3.sr hs2.sr).mono ?_); rintro e w' ⟨rfl, n, rfl⟩; replace hOn := below_drewN hOn n)
        | (go_at_call 8; (with_reducible refine (alive_any _).mono ?_); rintro e w1 ⟨rfl, hbw⟩; replace hOn := on_step hOn hbw; clear hbw))
      go_ret
      exact ⟨rfl, hOn⟩

end Go.Proofs.YtadihlmpkckakaaDoor
