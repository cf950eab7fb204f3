/-
  The law's own alive; an order of the call's own beside the document's row and kept blocks; the law Plays.
-/
import Derived.Test.YtcpiaifaebpoaaaV
import Derived.Test.YtcpiaifaebpoaaaOpen
import Derived.Deep.CutRange
namespace Go.Proofs.Ytcpiaifaebpoaaa
open Go.RowKit

theorem only_nil {a b c : World} (h : Only [] a b) (k : Only [] b c) : Only [] a c := h.trans k (by simp)
theorem alive_1 : tipK [] ⟨#[97]⟩ = ([⟨#[97]⟩] : List ByteArray) := by decide +kernel
theorem alive_2 : tipK [⟨#[97]⟩] ⟨#[98]⟩ = ([⟨#[97]⟩, ⟨#[98]⟩] : List ByteArray) := by decide +kernel
theorem alive_3 : tipK [⟨#[97]⟩, ⟨#[98]⟩] ⟨#[97]⟩ = ([⟨#[98]⟩, ⟨#[97]⟩] : List ByteArray) := by decide +kernel
theorem alive_b1 : hasK ([] : List ByteArray) ⟨#[97]⟩ = false := by decide +kernel
theorem alive_b2 : hasK ([⟨#[97]⟩] : List ByteArray) ⟨#[98]⟩ = false := by decide +kernel
theorem alive_b3 : hasK ([⟨#[97]⟩, ⟨#[98]⟩] : List ByteArray) ⟨#[97]⟩ = true := by decide +kernel
theorem Pl.oldest_cons {w0 w : World} {p : Nat} {O : List Nat} {x : ByteArray} {L : List ByteArray} (h : Pl w0 w p O (x :: L)) : Calls Try.prog 13 #[.pointer (some ⟨p, 0, none⟩)] w fun e w' => e = .returned (.tuple #[.string x, .bool true]) ∧ Only [] w w' := by
  have := h.oldest
  rw [show decide (0 < (x :: L).length) = true from decide_eq_true (by simp)] at this
  exact this
theorem Pl.oldest_nil {w0 w : World} {p : Nat} {O : List Nat} (h : Pl w0 w p O []) : Calls Try.prog 13 #[.pointer (some ⟨p, 0, none⟩)] w fun e w' => e = .returned (.tuple #[.string ⟨#[]⟩, .bool false]) ∧ Only [] w w' := by
  have := h.oldest
  rw [show decide (0 < ([] : List ByteArray).length) = false from decide_eq_false (by simp)] at this
  exact this
set_option maxHeartbeats 4000000 in
theorem alive_any (w : World) : Calls Try.prog 7 #[] w fun e w' => e = .returned (.bool true) ∧ Only [] w w' := by
  have hN := Lib.hid (pl_new (Only.refl [] w))
  go_enter Try.func7, Try.ntmps7
  go_wp2_with (first
    | (go_at_call 8; ((with_reducible refine (hN.out).mono ?_); rintro e w1 ⟨D, O1, rfl, h1, _⟩; have hS1 := h1.touch (by decide) ⟨#[97]⟩ (by decide); rw [alive_1, alive_b1] at hS1; have hS1H := Lib.hid hS1; clear h1 hS1))
    | (go_at_call 11; ((with_reducible refine (hS1H.out).mono ?_); rintro e w2 ⟨rfl, O2, h2, _⟩; have hS2 := h2.touch (by decide) ⟨#[98]⟩ (by decide); rw [alive_2, alive_b2] at hS2; have hS2H := Lib.hid hS2; clear h2 hS2))
    | (go_at_call 11; ((with_reducible refine (hS2H.out).mono ?_); rintro e w3 ⟨rfl, O3, h3, _⟩; have hS3 := h3.touch (by decide) ⟨#[97]⟩ (by decide); rw [alive_3, alive_b3] at hS3; have hS3H := Lib.hid hS3; clear h3 hS3))
    | (go_at_call 11; ((with_reducible refine (hS3H.out).mono ?_); rintro e w4 ⟨rfl, O4, h4, _⟩; have hFH := Lib.hid h4.oldest_cons; have h4H := Lib.hid h4; clear h4))
    | (go_at_call 13; ((with_reducible refine (hFH.out).mono ?_); rintro e w5 ⟨rfl, o5⟩; have h5 := h4H.out.same o5; have hL5 := h5.len; simp only [List.length_cons, List.length_nil, Nat.zero_add, Nat.reduceAdd] at hL5; have hL5H := Lib.hid hL5; have h5H := Lib.hid h5; clear h5 o5 hL5))
    | (go_at_call 14; ((with_reducible refine (hL5H.out).mono ?_); rintro e w6 ⟨rfl, o6⟩; have h6 := h5H.out.same o6; have hA6 := Lib.hid h6.all; have h6H := Lib.hid h6; clear h6 o6))
    | (go_at_call 16; ((with_reducible refine (hA6.out).mono ?_); rintro e w7 ⟨v7, rfl, hR7, o7⟩; obtain ⟨A7, c7, hve⟩ := hR7.len; simp only [List.length_cons, List.length_nil, Nat.zero_add, Nat.reduceAdd] at hve; subst hve; have h7H := Lib.hid (h6H.out.same o7); have hal : Only [] w7 (w7.alloc (.cells #[.string ⟨#[98]⟩, .string ⟨#[97]⟩] 9)) := (Only.refl [] w7).alloc _; have hal7 := Lib.hid hal; have hT7 : RowT (w7.alloc (.cells #[.string ⟨#[98]⟩, .string ⟨#[97]⟩] 9)) w7.heap.size (.slice (some ⟨w7.heap.size, 0, none⟩) 2 2) [⟨#[98]⟩, ⟨#[97]⟩] := rowT_mk (L := [⟨#[98]⟩, ⟨#[97]⟩]) (heap_alloc_new w7 _) rfl (by simp) (Nat.le_refl _); have hQ7 := Lib.hid (tsame_any (hR7.same hal) hT7 (by decide)); clear hR7 hal hT7 o7))
    | (go_at_call 15; ((with_reducible refine (hQ7.out).mono ?_); rintro e w8 ⟨rfl, o8⟩; have h8H := Lib.hid ((h7H.out.same hal7.out).same o8); clear o8)))
  all_goals go_ret
  exact ⟨rfl, h8H.out.most⟩

/-- The call (begun in the world w0) has an order p of its own whose keys in order are L, and beside it a row r of its own that holds R; of what was there before nothing has turned. -/
def Ply (w0 w : World) (p : Nat) (r : Value) (L R : List ByteArray) (K : List (Nat × Obj)) : Prop :=
  ∃ O, Pl w0 w p O L ∧ RowT w w0.heap.size r R ∧ (∀ k, r.ownBlock = some k → k ∉ O) ∧ ∀ q ∈ K, w.heap[q.1]? = some q.2 ∧ q.1 ∉ O
variable {w0 w : World} {p : Nat} {r : Value} {L R : List ByteArray} {K : List (Nat × Obj)}
theorem Ply.most (h : Ply w0 w p r L R K) : Only [] w0 w := by obtain ⟨O, h1, _⟩ := h; exact h1.most
theorem Ply.rows (h : Ply w0 w p r L R K) : RowT w w0.heap.size r R := by obtain ⟨O, _, h2, _⟩ := h; exact h2
theorem Ply.same {w' : World} (h : Ply w0 w p r L R K) (ho : Only [] w w') : Ply w0 w' p r L R K := by
  obtain ⟨O, h1, h2, h3, h4⟩ := h
  exact ⟨O, h1.same ho, h2.same ho, h3, fun q hq => ⟨ho.keep (h4 q hq).1 (by simp), (h4 q hq).2⟩⟩
theorem Ply.less {K' : List (Nat × Obj)} (h : Ply w0 w p r L R K) (hK : ∀ q ∈ K', q ∈ K) : Ply w0 w p r L R K' := by
  obtain ⟨O, h1, h2, h3, h4⟩ := h
  exact ⟨O, h1, h2, h3, fun q hq => h4 q (hK q hq)⟩
theorem Ply.make (h : Ply w0 w p r L R K) (cs : Array Value) (t : TypeId) : Ply w0 (w.alloc (.cells cs t)) p r L R ((w.heap.size, .cells cs t) :: K) := by
  have ho : Only [] w (w.alloc (.cells cs t)) := (Only.refl [] w).alloc _
  obtain ⟨O, h1, h2, h3, h4⟩ := h
  refine ⟨O, h1.same ho, h2.same ho, h3, fun q hq => ?_⟩
  rcases List.mem_cons.1 hq with rfl | hq
  · exact ⟨heap_alloc_new w _, fun hm => by have := h1.lt hm; simp at this⟩
  · exact ⟨ho.keep (h4 q hq).1 (by simp), (h4 q hq).2⟩
theorem Ply.cell {b : Nat} {cs : Array Value} {t : TypeId} (h : Ply w0 w p r L R K) (hm : (b, .cells cs t) ∈ K) (j : Nat) : w.cell? ⟨b, j, none⟩ = cs[j]? := by
  obtain ⟨O, h1, h2, h3, h4⟩ := h
  have := (h4 _ hm).1
  simp [World.cell?, this]
theorem Ply.moved {w' : World} {O O' : List Nat} {L' : List ByteArray} (h2 : RowT w w0.heap.size r R) (h3 : ∀ k, r.ownBlock = some k → k ∉ O) (h4 : ∀ q ∈ K, w.heap[q.1]? = some q.2 ∧ q.1 ∉ O) (hp : Pl w0 w' p O' L') (m : Move O w w' O') : Ply w0 w' p r L' R K := by
  refine ⟨O', hp, h2.only m.1 h3, fun k hk hm => ?_, fun q hq => ⟨m.1.keep (h4 q hq).1 (h4 q hq).2, fun hm => ?_⟩⟩
  · have := (h2.lt k hk).2
    rcases m.2 k hm with e | e
    · exact h3 k hk e
    · omega
  · have := some_lt (h4 q hq).1
    rcases m.2 _ hm with e | e
    · exact (h4 q hq).2 e
    · omega
theorem Ply.start {O : List Nat} (h : Pl w0 w p O []) : Ply w0 w p (.slice none 0 0) [] [] [] :=
  ⟨O, h, rowT_nil _ _, fun k hk => by simp [Value.ownBlock] at hk, fun q hq => by simp at hq⟩
theorem Ply.fresh {w' : World} {r' : Value} {R' : List ByteArray} (h : Ply w0 w p r L R K) (hf : RowT w' w.heap.size r' R') (ho : Only [] w w') : Ply w0 w' p r' L R' K := by
  obtain ⟨O, h1, h2, h3, h4⟩ := h
  refine ⟨O, h1.same ho, hf.base h1.most.size, fun k hk hm => ?_, fun q hq => ⟨ho.keep (h4 q hq).1 (by simp), (h4 q hq).2⟩⟩
  have := (hf.lt k hk).1
  have := h1.lt hm
  omega
theorem Ply.touch (h : Ply w0 w p r L R K) (hl : L.length < 1000000) (key : ByteArray) (hkey : key.size ≤ maxLen) :
    Calls Try.prog 11 #[.pointer (some ⟨p, 0, none⟩), .string key] w fun e w' => e = .returned (.bool (!hasK L key)) ∧ Ply w0 w' p r (tipK L key) R K := by
  obtain ⟨O, h1, h2, h3, h4⟩ := h
  refine (h1.touch hl key hkey).mono ?_
  rintro e w' ⟨rfl, O', k1, m⟩
  exact ⟨rfl, Ply.moved h2 h3 h4 k1 m⟩
theorem Ply.drop (h : Ply w0 w p r L R K) (key : ByteArray) (hkey : key.size ≤ maxLen) :
    Calls Try.prog 9 #[.pointer (some ⟨p, 0, none⟩), .string key] w fun e w' => e = .returned (.bool (hasK L key)) ∧ Ply w0 w' p r (goK L key) R K := by
  obtain ⟨O, h1, h2, h3, h4⟩ := h
  refine (h1.drop key hkey).mono ?_
  rintro e w' ⟨rfl, O', k1, m⟩
  exact ⟨rfl, Ply.moved h2 h3 h4 k1 m⟩
theorem Ply.has (h : Ply w0 w p r L R K) (key : ByteArray) (hkey : key.size ≤ maxLen) :
    Calls Try.prog 17 #[.pointer (some ⟨p, 0, none⟩), .string key] w fun e w' => e = .returned (.bool (hasK L key)) ∧ Ply w0 w' p r L R K := by
  have h' := h
  obtain ⟨O, h1, _⟩ := h
  exact (h1.has key hkey).mono fun _ _ ⟨he, ho⟩ => ⟨he, h'.same ho⟩
theorem Ply.oldest (h : Ply w0 w p r L R K) : Calls Try.prog 13 #[.pointer (some ⟨p, 0, none⟩)] w fun e w' => e = .returned (.tuple #[.string (L.headD ⟨#[]⟩), .bool (decide (0 < L.length))]) ∧ Ply w0 w' p r L R K := by
  have h' := h
  obtain ⟨O, h1, _⟩ := h
  exact (h1.oldest).mono fun _ _ ⟨he, ho⟩ => ⟨he, h'.same ho⟩
theorem Ply.len (h : Ply w0 w p r L R K) : Calls Try.prog 14 #[.pointer (some ⟨p, 0, none⟩)] w fun e w' => e = .returned (.int .i64 (L.length : Nat)) ∧ Ply w0 w' p r L R K := by
  have h' := h
  obtain ⟨O, h1, _⟩ := h
  exact (h1.len).mono fun _ _ ⟨he, ho⟩ => ⟨he, h'.same ho⟩
theorem Ply.all (h : Ply w0 w p r L R K) : Calls Try.prog 16 #[.pointer (some ⟨p, 0, none⟩)] w fun e w' => ∃ v', e = .returned v' ∧ (∃ B, RowT w' B v' L) ∧ Ply w0 w' p r L R K := by
  have h' := h
  obtain ⟨O, h1, _⟩ := h
  exact (h1.all).mono fun _ _ ⟨v', he, hr, ho⟩ => ⟨v', he, ⟨_, hr⟩, h'.same ho⟩
theorem Ply.rgo (h : Ply w0 w p r L R K) (hn : R.length ≤ 1000000) (key : ByteArray) :
    Calls Try.prog 10 #[r, .string key] w fun e w' => ∃ r', e = .returned (.tuple #[r', .bool (hasK R key)]) ∧ Ply w0 w' p r' L (goK R key) K :=
  (rgo_any h.rows hn key).mono fun _ _ ⟨r', he, h1, h2⟩ => ⟨r', he, h.fresh h1 h2⟩
theorem Ply.rtip (h : Ply w0 w p r L R K) (hn : R.length ≤ 1000000) (key : ByteArray) :
    Calls Try.prog 12 #[r, .string key] w fun e w' => ∃ r', e = .returned (.tuple #[r', .bool (!hasK R key)]) ∧ Ply w0 w' p r' L (tipK R key) K :=
  (rtip_any h.rows hn key).mono fun _ _ ⟨r', he, h1, h2⟩ => ⟨r', he, h.fresh h1 h2⟩
theorem Ply.rhas (h : Ply w0 w p r L R K) (hn : R.length ≤ 1000000) (key : ByteArray) :
    Calls Try.prog 18 #[r, .string key] w fun e w' => e = .returned (.bool (hasK R key)) ∧ w = w' :=
  rhas_any h.rows hn key
theorem Ply.rsame {v : Value} (h : Ply w0 w p r L R K) (hv : ∃ B, RowT w B v R) (hn : R.length ≤ 1000000) :
    Calls Try.prog 15 #[v, r] w fun e w' => e = .returned (.bool true) ∧ Ply w0 w' p r L R K := by
  obtain ⟨B, hv⟩ := hv
  exact (tsame_any hv h.rows hn).mono fun _ _ ⟨he, ho⟩ => ⟨he, h.same ho⟩
end Go.Proofs.Ytcpiaifaebpoaaa
