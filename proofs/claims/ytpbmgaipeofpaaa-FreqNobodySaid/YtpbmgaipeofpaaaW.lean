/-
  The law's own alive; a book of the call's own beside the document's row and kept blocks.
-/
import Derived.Test.YtpbmgaipeofpaaaV
import Derived.Deep.CutRange
namespace Go.Proofs.Ytpbmgaipeofpaaa
open Go.RowKit

theorem only_nil {a b c : World} (h : Only [] a b) (k : Only [] b c) : Only [] a c := h.trans k (by simp)
theorem alive_1 : tipF [] ⟨#[97]⟩ = ([(⟨#[97]⟩, 1)] : List Sc) ∧ upF (cntF [] ⟨#[97]⟩) = 1 := by decide +kernel
theorem alive_2 : tipF [(⟨#[97]⟩, 1)] ⟨#[97]⟩ = ([(⟨#[97]⟩, 2)] : List Sc) ∧ upF (cntF [(⟨#[97]⟩, 1)] ⟨#[97]⟩) = 2 := by decide +kernel
theorem alive_3 : tipF [(⟨#[97]⟩, 2)] ⟨#[98]⟩ = ([(⟨#[97]⟩, 2), (⟨#[98]⟩, 1)] : List Sc) ∧ upF (cntF [(⟨#[97]⟩, 2)] ⟨#[98]⟩) = 1 := by decide +kernel
theorem alive_4 : tipF [(⟨#[97]⟩, 2), (⟨#[98]⟩, 1)] ⟨#[99]⟩ = ([(⟨#[97]⟩, 2), (⟨#[98]⟩, 1), (⟨#[99]⟩, 1)] : List Sc) ∧ upF (cntF [(⟨#[97]⟩, 2), (⟨#[98]⟩, 1)] ⟨#[99]⟩) = 1 := by decide +kernel
theorem alive_5 : (allF [(⟨#[97]⟩, 2), (⟨#[98]⟩, 1), (⟨#[99]⟩, 1)]).headD ⟨#[]⟩ = ⟨#[98]⟩ ∧ decide (0 < (allF [(⟨#[97]⟩, 2), (⟨#[98]⟩, 1), (⟨#[99]⟩, 1)]).length) = true := by decide +kernel
theorem alive_6 : halveF [(⟨#[97]⟩, 2), (⟨#[98]⟩, 1), (⟨#[99]⟩, 1)] = ([(⟨#[97]⟩, 1), (⟨#[98]⟩, 1), (⟨#[99]⟩, 1)] : List Sc) ∧ lessF [(⟨#[97]⟩, 2), (⟨#[98]⟩, 1), (⟨#[99]⟩, 1)] = 1 := by decide +kernel
theorem alive_7 : allF [(⟨#[97]⟩, 1), (⟨#[98]⟩, 1), (⟨#[99]⟩, 1)] = [⟨#[97]⟩, ⟨#[98]⟩, ⟨#[99]⟩] := by decide +kernel
set_option maxHeartbeats 4000000 in
theorem alive_any (w : World) : Calls Try.prog 8 #[] w fun e w' => e = .returned (.bool true) ∧ Only [] w w' := by
  have hN := Lib.hid (pl_new (Only.refl [] w))
  go_enter Try.func8, Try.ntmps8
  go_wp2_with (first
    | (go_at_call 9; ((with_reducible refine (hN.out).mono ?_); rintro e w1 ⟨D, O1, rfl, h1, _⟩; have hS1 := h1.touch (by decide) ⟨#[97]⟩ (by decide); rw [alive_1.1, alive_1.2] at hS1; have hS1H := Lib.hid hS1; clear h1 hS1))
    | (go_at_call 10; ((with_reducible refine (hS1H.out).mono ?_); rintro e w2 ⟨rfl, O2, h2, _⟩; have hS2 := h2.touch (by decide) ⟨#[97]⟩ (by decide); rw [alive_2.1, alive_2.2] at hS2; have hS2H := Lib.hid hS2; clear h2 hS2 hS1H))
    | (go_at_call 10; ((with_reducible refine (hS2H.out).mono ?_); rintro e w3 ⟨rfl, O3, h3, _⟩; have hS3 := h3.touch (by decide) ⟨#[98]⟩ (by decide); rw [alive_3.1, alive_3.2] at hS3; have hS3H := Lib.hid hS3; clear h3 hS3 hS2H))
    | (go_at_call 10; ((with_reducible refine (hS3H.out).mono ?_); rintro e w4 ⟨rfl, O4, h4, _⟩; have hS4 := h4.touch (by decide) ⟨#[99]⟩ (by decide); rw [alive_4.1, alive_4.2] at hS4; have hS4H := Lib.hid hS4; clear h4 hS4 hS3H))
    | (go_at_call 10; ((with_reducible refine (hS4H.out).mono ?_); rintro e w5 ⟨rfl, O5, h5, _⟩; have hF := h5.least; rw [alive_5.1, alive_5.2] at hF; have hFH := Lib.hid hF; have h5H := Lib.hid h5; clear h5 hF hS4H))
    | (go_at_call 20; ((with_reducible refine (hFH.out).mono ?_); rintro e w6 ⟨rfl, o6⟩; have h6 := h5H.out.same o6; have hL6 := h6.halve; rw [alive_6.1, alive_6.2] at hL6; have hL6H := Lib.hid hL6; clear h6 o6 hL6))
    | (go_at_call 14; ((with_reducible refine (hL6H.out).mono ?_); rintro e w7 ⟨rfl, O7, h7, _⟩; have hA7 := h7.all; rw [alive_7] at hA7; have hA7H := Lib.hid hA7; have h7H := Lib.hid h7; clear h7 hA7))
    | (go_at_call 22; ((with_reducible refine (hA7H.out).mono ?_); rintro e w8 ⟨v8, rfl, hR8, o8⟩; obtain ⟨A8, c8, hve⟩ := hR8.len; simp only [List.length_cons, List.length_nil, Nat.zero_add, Nat.reduceAdd] at hve; subst hve; have hal : Only [] w8 (w8.alloc (.cells #[.string ⟨#[97]⟩, .string ⟨#[98]⟩, .string ⟨#[99]⟩] 9)) := (Only.refl [] w8).alloc _; have hT8 : RowT (w8.alloc (.cells #[.string ⟨#[97]⟩, .string ⟨#[98]⟩, .string ⟨#[99]⟩] 9)) w8.heap.size (.slice (some ⟨w8.heap.size, 0, none⟩) 3 3) [⟨#[97]⟩, ⟨#[98]⟩, ⟨#[99]⟩] := rowT_mk (L := [⟨#[97]⟩, ⟨#[98]⟩, ⟨#[99]⟩]) (heap_alloc_new w8 _) rfl (by simp) (Nat.le_refl _); have hQ8 := Lib.hid (tsame_any (hR8.same hal) hT8 (by decide)); have h8H := Lib.hid ((h7H.out.same o8).same hal); clear hR8 hal hT8 o8))
    | (go_at_call 21; ((with_reducible refine (hQ8.out).mono ?_); rintro e w9 ⟨rfl, o9⟩; have h9H := Lib.hid (h8H.out.same o9); clear o9)))
  all_goals go_ret
  exact ⟨rfl, h9H.out.most⟩

/-- The call (begun in the world w0) has a book p of its own whose keys with counts, in the order of their last touches, are L, and beside it a row r of its own that holds R; of what was there before nothing has turned. -/
def Ply (w0 w : World) (p : Nat) (r : Value) (L R : List Sc) (K : List (Nat × Obj)) : Prop :=
  ∃ O, Pl w0 w p O L ∧ RowS w w0.heap.size r R ∧ (∀ k, r.ownBlock = some k → k ∉ O) ∧ ∀ q ∈ K, w.heap[q.1]? = some q.2 ∧ q.1 ∉ O
variable {w0 w : World} {p : Nat} {r : Value} {L R : List Sc} {K : List (Nat × Obj)}
theorem Ply.most (h : Ply w0 w p r L R K) : Only [] w0 w := by obtain ⟨O, h1, _⟩ := h; exact h1.most
theorem Ply.rows (h : Ply w0 w p r L R K) : RowS w w0.heap.size r R := by obtain ⟨O, _, h2, _⟩ := h; exact h2
theorem Ply.uniq (h : Ply w0 w p r L R K) : Uniq L := by obtain ⟨O, h1, _⟩ := h; exact h1.uniq
theorem Ply.cnt (h : Ply w0 w p r L R K) : Cnt L := by obtain ⟨O, h1, _⟩ := h; exact h1.cnt
theorem Ply.same {w' : World} (h : Ply w0 w p r L R K) (ho : Only [] w w') : Ply w0 w' p r L R K := by
  obtain ⟨O, h1, h2, h3, h4⟩ := h
  exact ⟨O, h1.same ho, h2.none ho, h3, fun q hq => ⟨ho.keep (h4 q hq).1 (by simp), (h4 q hq).2⟩⟩
theorem Ply.less {K' : List (Nat × Obj)} (h : Ply w0 w p r L R K) (hK : ∀ q ∈ K', q ∈ K) : Ply w0 w p r L R K' := by
  obtain ⟨O, h1, h2, h3, h4⟩ := h
  exact ⟨O, h1, h2, h3, fun q hq => h4 q (hK q hq)⟩
theorem Ply.make (h : Ply w0 w p r L R K) (cs : Array Value) (t : TypeId) : Ply w0 (w.alloc (.cells cs t)) p r L R ((w.heap.size, .cells cs t) :: K) := by
  have ho : Only [] w (w.alloc (.cells cs t)) := (Only.refl [] w).alloc _
  obtain ⟨O, h1, h2, h3, h4⟩ := h
  refine ⟨O, h1.same ho, h2.none ho, h3, fun q hq => ?_⟩
  rcases List.mem_cons.1 hq with rfl | hq
  · exact ⟨heap_alloc_new w _, fun hm => by have := h1.lt hm; simp at this⟩
  · exact ⟨ho.keep (h4 q hq).1 (by simp), (h4 q hq).2⟩
theorem Ply.cell {b : Nat} {cs : Array Value} {t : TypeId} (h : Ply w0 w p r L R K) (hm : (b, .cells cs t) ∈ K) (j : Nat) : w.cell? ⟨b, j, none⟩ = cs[j]? := by
  obtain ⟨O, h1, h2, h3, h4⟩ := h
  have := (h4 _ hm).1
  simp [World.cell?, this]
theorem Ply.moved {w' : World} {O O' : List Nat} {L' : List Sc} (h2 : RowS w w0.heap.size r R) (h3 : ∀ k, r.ownBlock = some k → k ∉ O) (h4 : ∀ q ∈ K, w.heap[q.1]? = some q.2 ∧ q.1 ∉ O) (hp : Pl w0 w' p O' L') (m : Move O w w' O') : Ply w0 w' p r L' R K := by
  refine ⟨O', hp, h2.only m.1 h3, fun k hk hm => ?_, fun q hq => ⟨m.1.keep (h4 q hq).1 (h4 q hq).2, fun hm => ?_⟩⟩
  · have := (h2.lt k hk).2
    rcases m.2 k hm with e | e
    · exact h3 k hk e
    · omega
  · have := some_lt (h4 q hq).1
    rcases m.2 _ hm with e | e
    · exact (h4 q hq).2 e
    · omega
theorem Ply.start {O : List Nat} (h : Pl w0 w p O []) : Ply w0 w p (.slice none 0 0) [] [] [] :=
  ⟨O, h, rowS_nil _ _, fun k hk => by simp [Value.ownBlock] at hk, fun q hq => by simp at hq⟩
theorem Ply.fresh {w' : World} {r' : Value} {R' : List Sc} (h : Ply w0 w p r L R K) (hf : RowS w' w.heap.size r' R') (ho : Only [] w w') : Ply w0 w' p r' L R' K := by
  obtain ⟨O, h1, h2, h3, h4⟩ := h
  refine ⟨O, h1.same ho, hf.base h1.most.size, fun k hk hm => ?_, fun q hq => ⟨ho.keep (h4 q hq).1 (by simp), (h4 q hq).2⟩⟩
  have := (hf.lt k hk).1
  have := h1.lt hm
  omega
theorem Ply.touch (h : Ply w0 w p r L R K) (hl : L.length < 1000000) (key : ByteArray) (hkey : key.size ≤ maxLen) :
    Calls Try.prog 10 #[.pointer (some ⟨p, 0, none⟩), .string key] w fun e w' => e = .returned (.int .i64 (upF (cntF L key))) ∧ Ply w0 w' p r (tipF L key) R K := by
  obtain ⟨O, h1, h2, h3, h4⟩ := h
  refine (h1.touch hl key hkey).mono ?_
  rintro e w' ⟨rfl, O', k1, m⟩
  exact ⟨rfl, Ply.moved h2 h3 h4 k1 m⟩
theorem Ply.drop (h : Ply w0 w p r L R K) (key : ByteArray) (hkey : key.size ≤ maxLen) :
    Calls Try.prog 12 #[.pointer (some ⟨p, 0, none⟩), .string key] w fun e w' => e = .returned (.bool (hasF L key)) ∧ Ply w0 w' p r (goF L key) R K := by
  obtain ⟨O, h1, h2, h3, h4⟩ := h
  refine (h1.drop key hkey).mono ?_
  rintro e w' ⟨rfl, O', k1, m⟩
  exact ⟨rfl, Ply.moved h2 h3 h4 k1 m⟩
theorem Ply.halve (h : Ply w0 w p r L R K) :
    Calls Try.prog 14 #[.pointer (some ⟨p, 0, none⟩)] w fun e w' => e = .returned (.int .i64 (lessF L : Nat)) ∧ Ply w0 w' p r (halveF L) R K := by
  obtain ⟨O, h1, h2, h3, h4⟩ := h
  refine (h1.halve).mono ?_
  rintro e w' ⟨rfl, O', k1, m⟩
  exact ⟨rfl, Ply.moved h2 h3 h4 k1 m⟩
theorem Ply.count (h : Ply w0 w p r L R K) (key : ByteArray) (hkey : key.size ≤ maxLen) :
    Calls Try.prog 17 #[.pointer (some ⟨p, 0, none⟩), .string key] w fun e w' => e = .returned (.int .i64 (cntF L key)) ∧ Ply w0 w' p r L R K := by
  have h' := h
  obtain ⟨O, h1, _⟩ := h
  exact (h1.count key hkey).mono fun _ _ ⟨he, ho⟩ => ⟨he, h'.same ho⟩
theorem Ply.least (h : Ply w0 w p r L R K) : Calls Try.prog 20 #[.pointer (some ⟨p, 0, none⟩)] w fun e w' => e = .returned (.tuple #[.string ((allF L).headD ⟨#[]⟩), .bool (decide (0 < (allF L).length))]) ∧ Ply w0 w' p r L R K := by
  have h' := h
  obtain ⟨O, h1, _⟩ := h
  exact (h1.least).mono fun _ _ ⟨he, ho⟩ => ⟨he, h'.same ho⟩
theorem Ply.len (h : Ply w0 w p r L R K) : Calls Try.prog 16 #[.pointer (some ⟨p, 0, none⟩)] w fun e w' => e = .returned (.int .i64 (L.length : Nat)) ∧ Ply w0 w' p r L R K := by
  have h' := h
  obtain ⟨O, h1, _⟩ := h
  exact (h1.len).mono fun _ _ ⟨he, ho⟩ => ⟨he, h'.same ho⟩
theorem Ply.all (h : Ply w0 w p r L R K) : Calls Try.prog 22 #[.pointer (some ⟨p, 0, none⟩)] w fun e w' => ∃ v', e = .returned v' ∧ (∃ B, RowT w' B v' (allF L)) ∧ Ply w0 w' p r L R K := by
  have h' := h
  obtain ⟨O, h1, _⟩ := h
  exact (h1.all).mono fun _ _ ⟨v', he, hr, ho⟩ => ⟨v', he, ⟨_, hr⟩, h'.same ho⟩
theorem Ply.rgo (h : Ply w0 w p r L R K) (hn : R.length ≤ 1000000) (key : ByteArray) :
    Calls Try.prog 13 #[r, .string key] w fun e w' => ∃ r', e = .returned (.tuple #[r', .bool (hasF R key)]) ∧ Ply w0 w' p r' L (goF R key) K :=
  (rgo_any h.rows hn key).mono fun _ _ ⟨r', he, h1, h2⟩ => ⟨r', he, h.fresh h1 h2⟩
theorem Ply.rtip (h : Ply w0 w p r L R K) (hn : R.length ≤ 1000000) (hc : Cnt R) (key : ByteArray) :
    Calls Try.prog 11 #[r, .string key] w fun e w' => ∃ r', e = .returned (.tuple #[r', .int .i64 (upF (cntF R key))]) ∧ Ply w0 w' p r' L (tipF R key) K :=
  (rtip_any h.rows hn hc key).mono fun _ _ ⟨r', he, h1, h2⟩ => ⟨r', he, h.fresh h1 h2⟩
theorem Ply.rhalve (h : Ply w0 w p r L R K) (hn : R.length ≤ 1000000) (hc : Cnt R) :
    Calls Try.prog 15 #[r] w fun e w' => ∃ r', e = .returned (.tuple #[r', .int .i64 (lessF R : Nat)]) ∧ Ply w0 w' p r' L (halveF R) K :=
  (rhalve_any h.rows hn hc).mono fun _ _ ⟨r', he, h1, h2⟩ => ⟨r', he, h.fresh h1 h2⟩
theorem Ply.rcnt (h : Ply w0 w p r L R K) (hn : R.length ≤ 1000000) (key : ByteArray) :
    Calls Try.prog 18 #[r, .string key] w fun e w' => e = .returned (.int .i64 (cntF R key)) ∧ w = w' :=
  rcnt_any h.rows hn key
theorem Ply.rall (h : Ply w0 w p r L R K) (hn : R.length ≤ 1000000) :
    Calls Try.prog 19 #[r] w fun e w' => ∃ v', e = .returned v' ∧ RowT w' w.heap.size v' (allF R) ∧ Only [] w w' :=
  rall_any h.rows hn
end Go.Proofs.Ytpbmgaipeofpaaa
