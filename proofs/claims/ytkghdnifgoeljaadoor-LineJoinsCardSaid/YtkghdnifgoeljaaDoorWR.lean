/-
  The walk of the law of joining. A premise: the library's variable ErrSyntax holds an error, or none.
-/
import Derived.Test.YtkghdnifgoeljaaDoorWO
import Derived.Test.YtkghdnifgoeljaaDoorWQ
namespace Go.Proofs.YtkghdnifgoeljaaDoor
open Go.RowKit Ln

theorem total_le {ss : List ByteArray} {x : ByteArray} (h : x ∈ ss) : x.size ≤ total ss := by
  induction ss with
  | nil => cases h
  | cons a ss ih =>
    have e : total (a :: ss) = a.size + total ss := by simp [total]
    rcases List.mem_cons.1 h with rfl | h
    · omega
    · have := ih h; omega
theorem join_len (ss : List ByteArray) : (joinF (txt ss)).length ≤ 4 * total ss + 3 * ss.length := by
  induction ss with
  | nil => simp [txt, joinF]
  | cons a ss ih =>
    have ht := tok_len a.data.toList
    have hl : a.data.toList.length = a.size := by simp
    have e : total (a :: ss) = a.size + total ss := by simp [total]
    cases ss with
    | nil =>
      simp only [txt, List.map_cons, List.map_nil, joinF, List.length_cons, List.length_nil] at ih ⊢
      omega
    | cons b ss =>
      have : joinF (txt (a :: b :: ss)) = tok a.data.toList ++ 32 :: joinF (txt (b :: ss)) := rfl
      rw [this, List.length_append, List.length_cons]
      simp only [List.length_cons] at ih ⊢
      omega

set_option maxRecDepth 100000 in
set_option maxHeartbeats 2000000 in
theorem joins_any (A : Option Addr) (c : Nat) (ss : List ByteArray) (w : World) (hl : ss.length ≤ 140737488355328) (hr : SB w w.heap.size A ss) (hE : ErrAt w) :
    Calls Tryd.prog 4 #[.slice A ss.length c] w fun e w' => e = .returned (.bool true) ∧ Below w.heap.size w w' := by
  have hEH := Lib.hid hE
  have hrH := Lib.hid hr
  clear hE hr
  cases hF : farL ss with
  | true =>
    have hFH := Lib.hid hF
    clear hF
    go_enter Tryd.func4, Tryd.ntmps4
    go_wp2_with (first
      | (go_at_call 7; ((with_reducible refine (far_any A c ss _ hrH.out.rr hl true hFH).mono ?_); rintro e w' ⟨rfl, rfl⟩))
      | (go_at_call 8; ((with_reducible refine (alive_any _ hEH).mono ?_); rintro e w1 ⟨rfl, hb1⟩)))
    go_ret
    exact ⟨rfl, hb1⟩
  | false =>
    have hFH := Lib.hid hF
    obtain ⟨f1, f2, f3⟩ := far_not hF
    have hz : Hid (∀ x ∈ ss, x.size ≤ 65536) := Lib.hid fun x hx => Nat.le_trans (f1 x hx) (by decide)
    have hj := join_len ss
    have hj2 : (joinF (txt ss)).length ≤ 1048576 := by omega
    have hJ := Lib.hid (join_any A c ss w (by omega) hz hj2 hrH.out)
    clear hF f1 hj
    go_enter Tryd.func4, Tryd.ntmps4
    go_wp2_with (first
      | (go_at_call 7; ((with_reducible refine (far_any A c ss _ hrH.out.rr hl false hFH).mono ?_); rintro e w' ⟨rfl, rfl⟩))
      | (go_at_call 12; ((with_reducible refine hJ.out.mono ?_); rintro e w1 ⟨rfl, hb1⟩))
      | (go_at_call 13; ((with_reducible refine (rjoin_any A c ss w1 (by omega) hz hj2 (hrH.out.on hb1).sr).mono ?_); rintro e w2 ⟨rfl, n, rfl⟩))
      | (go_at_call 8; ((with_reducible refine (alive_any _ (Lib.hid ((hEH.out.on hb1).drewN _))).mono ?_); rintro e w3 ⟨rfl, hb3⟩)))
    go_ret
    exact ⟨rfl, (below_drewN hb1 _).trans (hb3.mono hb1.size)⟩
end Go.Proofs.YtkghdnifgoeljaaDoor
