/-
  A timer of the call's own beside the document's row, and blocks that are kept; the law that speaks of the timer that is none, and of the one that nobody made.
-/
import Derived.Test.YtbaghdfalhlhcaaV
import Derived.Test.YtbaghdfalhlhcaaU
import Derived.Test.YtbaghdfalhlhcaaS
import Derived.Deep.RegionHeld3
namespace Go.Proofs.Ytbaghdfalhlhcaa
open Go.RowKit

/-- The call (begun in the world w0) has a timer p of its own whose keys in order are L, and beside it a row r of its own that holds R, and blocks K that are kept; of what was there before nothing has turned. -/
def Ply (w0 w : World) (p : Nat) (r : Value) (L R : List Sc) (K : List (Nat × Obj)) : Prop :=
  ∃ O, Pl w0 w p O L ∧ RowS w w0.heap.size r R ∧ (∀ k, r.ownBlock = some k → k ∉ O) ∧ ∀ q ∈ K, w.heap[q.1]? = some q.2 ∧ q.1 ∉ O
variable {w0 w : World} {p : Nat} {r : Value} {L R : List Sc} {K : List (Nat × Obj)}
theorem Ply.most (h : Ply w0 w p r L R K) : Only [] w0 w := by obtain ⟨O, h1, _⟩ := h; exact h1.most
theorem Ply.rows (h : Ply w0 w p r L R K) : RowS w w0.heap.size r R := by obtain ⟨O, _, h2, _⟩ := h; exact h2
theorem Ply.rises (h : Ply w0 w p r L R K) : Rises L := by obtain ⟨O, h1, _⟩ := h; exact h1.rises
theorem Ply.uniq (h : Ply w0 w p r L R K) : Uniq L := by obtain ⟨O, h1, _⟩ := h; exact h1.uniq
theorem Ply.same {w' : World} (h : Ply w0 w p r L R K) (ho : Only [] w w') : Ply w0 w' p r L R K := by
  obtain ⟨O, h1, h2, h3, h4⟩ := h
  exact ⟨O, h1.same ho, h2.none ho, h3, fun q hq => ⟨ho.keep (h4 q hq).1 (by simp), (h4 q hq).2⟩⟩
theorem Ply.less {K' : List (Nat × Obj)} (h : Ply w0 w p r L R K) (hK : ∀ q ∈ K', q ∈ K) : Ply w0 w p r L R K' := by
  obtain ⟨O, h1, h2, h3, h4⟩ := h
  exact ⟨O, h1, h2, h3, fun q hq => h4 q (hK q hq)⟩
theorem Ply.make (h : Ply w0 w p r L R K) (cs : Array Value) (t : TypeId) : Ply w0 (w.alloc (.cells cs t)) p r L R ((w.heap.size, .cells cs t) :: K) := by
  have ho : Only [] w (w.alloc (.cells cs t)) := (Only.refl [] w).alloc _
  obtain ⟨O, h1, h2, h3, h4⟩ := h
  refine ⟨O, h1.same ho, h2.none ho, h3, fun q hq => ?_⟩
  rcases List.mem_cons.1 hq with rfl | hq
  · exact ⟨heap_alloc_new w _, fun hm => by have := h1.lt hm; simp at this⟩
  · exact ⟨ho.keep (h4 q hq).1 (by simp), (h4 q hq).2⟩
theorem Ply.cell {b : Nat} {cs : Array Value} {t : TypeId} (h : Ply w0 w p r L R K) (hm : (b, .cells cs t) ∈ K) (j : Nat) : w.cell? ⟨b, j, none⟩ = cs[j]? := by
  obtain ⟨O, h1, h2, h3, h4⟩ := h
  have := (h4 _ hm).1
  simp [World.cell?, this]
theorem Ply.moved {w' : World} {O O' : List Nat} {L' : List Sc} (h2 : RowS w w0.heap.size r R) (h3 : ∀ k, r.ownBlock = some k → k ∉ O) (h4 : ∀ q ∈ K, w.heap[q.1]? = some q.2 ∧ q.1 ∉ O) (hp : Pl w0 w' p O' L') (m : Move O w w' O') : Ply w0 w' p r L' R K := by
  refine ⟨O', hp, h2.only m.1 h3, fun k hk hm => ?_, fun q hq => m.apart (h4 q hq).1 (h4 q hq).2⟩
  have := (h2.lt k hk).2
  rcases m.2 k hm with e | e
  · exact h3 k hk e
  · omega
theorem Ply.set (h : Ply w0 w p r L R K) (hl : L.length < 1000000) (key : ByteArray) (hkey : key.size ≤ maxLen) (t : Int) :
    Calls Try.prog 10 #[.pointer (some ⟨p, 0, none⟩), .string key, .int .i64 t] w fun e w' => e = .returned (.bool (atK L key).isNone) ∧ Ply w0 w' p r (setK L key t) R K := by
  obtain ⟨O, h1, h2, h3, h4⟩ := h
  refine (h1.set hl key hkey t).mono ?_
  rintro e w' ⟨rfl, O', k1, m⟩
  exact ⟨rfl, Ply.moved h2 h3 h4 k1 m⟩
theorem Ply.drop (h : Ply w0 w p r L R K) (key : ByteArray) (hkey : key.size ≤ maxLen) :
    Calls Try.prog 12 #[.pointer (some ⟨p, 0, none⟩), .string key] w fun e w' => e = .returned (.bool (atK L key).isSome) ∧ Ply w0 w' p r (dropK L key) R K := by
  obtain ⟨O, h1, h2, h3, h4⟩ := h
  refine (h1.drop key hkey).mono ?_
  rintro e w' ⟨rfl, O', k1, m⟩
  exact ⟨rfl, Ply.moved h2 h3 h4 k1 m⟩
/-- Due beside a row of texts that is kept. -/
theorem Ply.due (h : Ply w0 w p r L R K) (now : Int) {B : Nat} {x : Value} {X : List ByteArray} (hx : RowT w B x X) (hxp : ∀ O, Pl w0 w p O L → ∀ q, x.ownBlock = some q → q ∉ O) :
    Calls Try.prog 16 #[.pointer (some ⟨p, 0, none⟩), .int .i64 now] w fun e w' => ∃ u, e = .returned u ∧ RowT w' w.heap.size u ((L.take (dueN L now)).map Prod.fst) ∧ Ply w0 w' p r (L.drop (dueN L now)) R K ∧ RowT w' B x X := by
  obtain ⟨O, h1, h2, h3, h4⟩ := h
  refine (h1.due now).mono ?_
  rintro e w' ⟨u, rfl, k2, O', k1, m, _⟩
  exact ⟨u, rfl, k2, Ply.moved h2 h3 h4 k1 m, hx.only m.1 (hxp O h1)⟩
theorem Ply.at_ (h : Ply w0 w p r L R K) (key : ByteArray) (hkey : key.size ≤ maxLen) :
    Calls Try.prog 17 #[.pointer (some ⟨p, 0, none⟩), .string key] w fun e w' => e = .returned (atV L key) ∧ w = w' := by
  obtain ⟨O, h1, _⟩ := h
  exact h1.at_ key hkey
theorem Ply.first (h : Ply w0 w p r L R K) : Calls Try.prog 19 #[.pointer (some ⟨p, 0, none⟩)] w fun e w' => e = .returned (firstV L) ∧ Only [] w w' := by
  obtain ⟨O, h1, _⟩ := h
  exact h1.first
theorem Ply.len (h : Ply w0 w p r L R K) : Calls Try.prog 20 #[.pointer (some ⟨p, 0, none⟩)] w fun e w' => e = .returned (.int .i64 (L.length : Nat)) ∧ w = w' := by
  obtain ⟨O, h1, _⟩ := h
  exact h1.len
theorem Ply.all (h : Ply w0 w p r L R K) : Calls Try.prog 22 #[.pointer (some ⟨p, 0, none⟩)] w fun e w' => ∃ v', e = .returned v' ∧ FreshS w v' L w' := by
  obtain ⟨O, h1, _⟩ := h
  exact h1.all

theorem ply_zero {w0 w : World} (ho : Only [] w0 w) {K : List (Nat × Obj)} (hK : ∀ q ∈ K, w.heap[q.1]? = some q.2) : Ply w0 (w.alloc (.cells #[.slice none 0 0, .map none] 53)) w.heap.size (.slice none 0 0) [] [] K := by
  have h1 : Only [] w (w.alloc (.cells #[.slice none 0 0, .map none] 53)) := (Only.refl [] w).alloc _
  have hsz := ho.size
  refine ⟨[w.heap.size], ⟨⟨[], Or.inl ⟨heap_alloc_new w _, rfl, rfl⟩, HR.nil⟩, fun b hb => by have := List.mem_singleton.1 hb; omega, only_nil ho h1⟩, rowS_nil _ _, fun k hk => by simp [Value.ownBlock] at hk, fun q hq => ⟨h1.keep (hK q hq) (by simp), fun hb => ?_⟩⟩
  have := List.mem_singleton.1 hb
  have := some_lt (hK q hq)
  omega
def opC (o : OpT) : Array Value := #[.int .i64 o.1, .string o.2.1, .int .i64 o.2.2]
theorem ops_one (W : World) (o : OpT) : OpsAt (W.alloc (.cells (opC o) 29)) (W.alloc (.cells (opC o) 29)).heap.size (some ⟨W.heap.size, 0, none⟩) [o] := by
  intro i x hx
  rcases i with _ | i
  · simp at hx
    subst hx
    have hh := heap_alloc_new W (.cells (opC o) 29)
    exact ⟨_, rfl, by simp, Lib.cell_of_heap hh 0, Lib.cell_of_heap hh 1, Lib.cell_of_heap hh 2⟩
  · simp at hx
/-- The argument's copy, and what First told, as they lie. -/
structure Nb (w W : World) (b0 b2 : Nat) (kd : Int) (xa : ByteArray) (xs : Int) : Prop where
  only : Only [] w W
  op : W.heap[b0]? = some (.cells #[.int .i64 kd, .string xa, .int .i64 xs] 29 (0, 0))
  pair : W.heap[b2]? = some (.cells #[.string ⟨#[]⟩, .int .i64 0] 44 (0, 0))
theorem Nb.same {w W W' : World} {b0 b2 : Nat} {kd : Int} {xa : ByteArray} {xs : Int} (h : Nb w W b0 b2 kd xa xs) (ho : Only [] W W') : Nb w W' b0 b2 kd xa xs :=
  ⟨only_nil h.only ho, ho.keep h.op (by simp), ho.keep h.pair (by simp)⟩
theorem Nb.cells {w W : World} {b0 b2 : Nat} {kd : Int} {xa : ByteArray} {xs : Int} (h : Nb w W b0 b2 kd xa xs) :
    W.cell? ⟨b0, 1, none⟩ = some (.string xa) ∧ W.cell? ⟨b0, 2, none⟩ = some (.int .i64 xs) ∧ W.cell? ⟨b2, 0, none⟩ = some (.string ⟨#[]⟩) ∧ W.cell? ⟨b2, 1, none⟩ = some (.int .i64 0) :=
  ⟨Lib.cell_of_heap h.op 1, Lib.cell_of_heap h.op 2, Lib.cell_of_heap h.pair 0, Lib.cell_of_heap h.pair 1⟩
theorem set_first (k : ByteArray) (t : Int) : setK [] k t = [(k, t)] := by
  rw [setK_form]
  simp [dropK, ahd]
theorem drop_first (k : ByteArray) : dropK [] k = [] := rfl
set_option maxRecDepth 100000 in
set_option maxHeartbeats 16000000 in
theorem nobody_any (w : World) (kd : Int) (xa : ByteArray) (xs : Int) (hx : xa.size ≤ maxLen) :
    Calls Try.prog 6 #[.agg #[.int .i64 kd, .string xa, .int .i64 xs]] w fun e w' => e = .returned (.bool true) ∧ Below w.heap.size w w' := by
  have hO1 : Only [] w (w.alloc (.cells #[.int .i64 kd, .string xa, .int .i64 xs] 29)) := (Only.refl [] w).alloc _
  have hb := heap_alloc_new w (.cells #[.int .i64 kd, .string xa, .int .i64 xs] 29)
  have hfar := Lib.hid (fun W => far_any (c := 1) (ops_one W (kd, xa, xs)) (by simp) (by simp; exact hx))
  have hxH := Lib.hid hx
  clear hx
  unfold opC at hfar
  simp only [List.length_cons, List.length_nil, Nat.zero_add] at hfar
  have hbk := Lib.hid hb
  go_enter Try.func6, Try.ntmps6
  go_upto_region 1 with (fail)
  generalize hW1 : w.alloc (.cells #[.int .i64 kd, .string xa, .int .i64 xs] 29) = W1 at *
  generalize hb0 : w.heap.size = b0 at *
  have x0 : W1.cell? ⟨b0, 0, none⟩ = some (.int .i64 kd) := Lib.cell_of_heap hb 0
  have x1 : W1.cell? ⟨b0, 1, none⟩ = some (.string xa) := Lib.cell_of_heap hb 1
  have x2 : W1.cell? ⟨b0, 2, none⟩ = some (.int .i64 xs) := Lib.cell_of_heap hb 2
  have hO1H := Lib.hid hO1
  have hb0H := Lib.hid hb0
  clear hW1 hb hO1
  cases hf : farF [(kd, xa, xs)] with
  | true =>
    rw [hf] at hfar
    go_wp2_with (first
      | (go_at_call 7; ((with_reducible refine (hfar.out _).mono ?_); rintro e w2 ⟨rfl, h2⟩; have h2H := Lib.hid (only_nil (hO1H.out.alloc _) h2); clear h2))
      | (go_at_call 8; ((with_reducible refine (alive_any w2).mono ?_); rintro e w3 ⟨rfl, h3⟩; have h3H := Lib.hid (only_nil h2H.out h3); clear h3)))
    all_goals go_ret
    exact ⟨rfl, h3H.out.below (by have := hb0H.out; omega) (by simp)⟩
  | false =>
    rw [hf] at hfar
    clear hf
    have hA := Lib.hid (fun W => at_nil W xa)
    have hF := Lib.hid (fun W => first_nil W)
    have hP := Lib.hid (fun W => set_nil W xa xs)
    have hD := Lib.hid (fun W => drop_nil W xa)
    have hU := Lib.hid (fun W => due_nil W xs)
    have hL := Lib.hid (fun W => len_nil W)
    have hC := Lib.hid (fun W => all_nil W)
    go_upto_region 8 with (first
      | (go_at_call 7; ((with_reducible refine (hfar.out _).mono ?_); rintro e w2 ⟨rfl, h2⟩; have h12 : Only [] W1 w2 := only_nil ((Only.refl [] W1).alloc _) h2; have h2H := Lib.hid (only_nil hO1H.out h12); have hop2 := Lib.hid (h12.keep hbk.out (by simp)); have y1 := cell_keep h12 x1; have y2 := cell_keep h12 x2; clear h2 h12 x0 x1 x2))
      | (go_at_call 17; ((with_reducible refine (hA.out _).mono ?_); rintro e w' ⟨rfl, rfl⟩))
      | (go_at_call 19; ((with_reducible refine (hF.out _).mono ?_); rintro e w3 ⟨rfl, h3⟩; have hN4 : Hid (Nb w (w3.alloc (.cells #[.string ⟨#[]⟩, .int .i64 0] 44)) b0 w3.heap.size kd xa xs) := Lib.hid ⟨only_nil h2H.out (h3.alloc _), (h3.alloc _).keep hop2.out (by simp), heap_alloc_new w3 _⟩; obtain ⟨a1, a2, a3, a4⟩ := hN4.out.cells; clear h3))
      | (go_at_call 10; ((with_reducible refine (hP.out _).mono ?_); rintro e w' ⟨rfl, rfl⟩))
      | (go_at_call 12; ((with_reducible refine (hD.out _).mono ?_); rintro e w' ⟨rfl, rfl⟩))
      | (go_at_call 16; ((with_reducible refine (hU.out _).mono ?_); rintro e w5 ⟨rfl, h5⟩; have hN5 := Lib.hid (hN4.out.same h5); obtain ⟨c1, c2, c3, c4⟩ := hN5.out.cells; clear h5))
      | (go_at_call 20; ((with_reducible refine (hL.out _).mono ?_); rintro e w' ⟨rfl, rfl⟩))
      | (go_at_call 22; ((with_reducible refine (hC.out _).mono ?_); rintro e w' ⟨rfl, rfl⟩)))
    clear a1 a2 a3 a4 c1 c2 c3 c4 hA hF hP hD hU hL hC hfar y1 y2 hN4 hop2 h2H hO1H
    have hZ := ply_zero (w0 := w) hN5.out.only (K := [(b0, .cells #[.int .i64 kd, .string xa, .int .i64 xs] 29)]) (fun q hq => by obtain rfl := List.mem_singleton.1 hq; exact hN5.out.op)
    clear hN5 hbk
    go_upto_region 9 with (fail)
    generalize w5.alloc (.cells #[.slice none 0 0, .map none] 53) = W6 at *
    generalize w5.heap.size = D at *
    have hAt := hZ.at_ xa hxH.out
    rw [show atV [] xa = .tuple #[.int .i64 0, .bool false] from rfl] at hAt
    have hAtH := Lib.hid hAt
    clear hAt
    have z1 : W6.cell? ⟨b0, 1, none⟩ = some (.string xa) := hZ.cell (List.mem_cons_self ..) 1
    have z2 : W6.cell? ⟨b0, 2, none⟩ = some (.int .i64 xs) := hZ.cell (List.mem_cons_self ..) 2
    go_upto_region 10 with (go_at_call 17; ((with_reducible refine (hAtH.out).mono ?_); rintro e w' ⟨rfl, rfl⟩))
    have hDr : Hid (∀ W, Ply w W D (.slice none 0 0) [] [] [(b0, .cells #[.int .i64 kd, .string xa, .int .i64 xs] 29)] → Calls Try.prog 12 #[.pointer (some ⟨D, 0, none⟩), .string xa] W fun e w' => e = .returned (.bool false) ∧ Ply w w' D (.slice none 0 0) [] [] [(b0, .cells #[.int .i64 kd, .string xa, .int .i64 xs] 29)]) := Lib.hid (fun W h => h.drop xa hxH.out)
    have hPu : Hid (∀ W, Ply w W D (.slice none 0 0) [] [] [(b0, .cells #[.int .i64 kd, .string xa, .int .i64 xs] 29)] → Calls Try.prog 10 #[.pointer (some ⟨D, 0, none⟩), .string xa, .int .i64 xs] W fun e w' => e = .returned (.bool true) ∧ Ply w w' D (.slice none 0 0) [(xa, xs)] [] [(b0, .cells #[.int .i64 kd, .string xa, .int .i64 xs] 29)]) := Lib.hid (fun W h => by
      have := h.set (by simp) xa hxH.out xs
      rw [set_first] at this
      exact this)
    have hCu : Hid (∀ W, Ply w W D (.slice none 0 0) [(xa, xs)] [] [(b0, .cells #[.int .i64 kd, .string xa, .int .i64 xs] 29)] → Calls Try.prog 22 #[.pointer (some ⟨D, 0, none⟩)] W fun e w' => ∃ v, e = .returned v ∧ RowS w' W.heap.size v [(xa, xs)] ∧ Ply w w' D (.slice none 0 0) [(xa, xs)] [] [(b0, .cells #[.int .i64 kd, .string xa, .int .i64 xs] 29)] ∧ Only [] W w') := Lib.hid (fun W h => (h.all).mono fun _ _ ⟨v, he, hf⟩ => ⟨v, he, hf.1, h.same hf.2, hf.2⟩)
    have hSa : Hid (∀ W B B' u u', Ply w W D (.slice none 0 0) [(xa, xs)] [] [(b0, .cells #[.int .i64 kd, .string xa, .int .i64 xs] 29)] → RowS W B u [(xa, xs)] → RowS W B' u' [(xa, xs)] → Calls Try.prog 21 #[u, u'] W fun e w' => e = .returned (.bool true) ∧ Ply w w' D (.slice none 0 0) [(xa, xs)] [] [(b0, .cells #[.int .i64 kd, .string xa, .int .i64 xs] 29)]) := Lib.hid (fun W B B' u u' h h1 h2 => (rsame_any h1 h2 (by simp)).mono fun _ _ ⟨he, ho⟩ => ⟨by rw [he, decide_eq_true rfl], h.same ho⟩)
    have hAl : Hid (∀ W, Ply w W D (.slice none 0 0) [(xa, xs)] [] [(b0, .cells #[.int .i64 kd, .string xa, .int .i64 xs] 29)] → Calls Try.prog 8 #[] W fun e w' => e = .returned (.bool true) ∧ Ply w w' D (.slice none 0 0) [(xa, xs)] [] [(b0, .cells #[.int .i64 kd, .string xa, .int .i64 xs] 29)]) := Lib.hid (fun W h => (alive_any W).mono fun _ _ ⟨he, hp⟩ => ⟨he, h.same hp⟩)
    have hZd := hZ.same ((Only.refl [] W6).drew)
    have z1d : W6.drew.cell? ⟨b0, 1, none⟩ = some (.string xa) := z1
    have z2d : W6.drew.cell? ⟨b0, 2, none⟩ = some (.int .i64 xs) := z2
    clear hAtH
    go_region_held3 (fun w' => w'.cell? ⟨b0, 1, none⟩ = some (.string xa) ∧ w'.cell? ⟨b0, 2, none⟩ = some (.int .i64 xs))
      (first | exact ⟨z1, z2⟩ | assumption | (refine ⟨?_, ?_⟩ <;> assumption) | exact ⟨cell_past (by assumption) _, cell_past (by assumption) _⟩)
      (first
      | (go_at_call 12; ((with_reducible refine (hDr.out _ (by assumption)).mono ?_); rintro r w13 ⟨rfl, p13⟩; have t1 : w13.cell? ⟨b0, 1, none⟩ = some (.string xa) := p13.cell (List.mem_cons_self ..) 1; have t2 : w13.cell? ⟨b0, 2, none⟩ = some (.int .i64 xs) := p13.cell (List.mem_cons_self ..) 2))
      | (go_at_call 10; ((with_reducible refine (hPu.out _ (by assumption)).mono ?_); rintro r w14 ⟨rfl, p14⟩; have t1 : w14.cell? ⟨b0, 1, none⟩ = some (.string xa) := p14.cell (List.mem_cons_self ..) 1; have t2 : w14.cell? ⟨b0, 2, none⟩ = some (.int .i64 xs) := p14.cell (List.mem_cons_self ..) 2))
      | (go_at_call 22; (first | (with_reducible refine (hCu.out _ (by assumption)).mono ?_) | (with_reducible refine (hCu.out _ (Ply.same (by assumption) ((Only.refl [] _).alloc _))).mono ?_)); rintro r w17 ⟨u17, rfl, r17, p17, o17⟩; have t1 : w17.cell? ⟨b0, 1, none⟩ = some (.string xa) := p17.cell (List.mem_cons_self ..) 1; have t2 : w17.cell? ⟨b0, 2, none⟩ = some (.int .i64 xs) := p17.cell (List.mem_cons_self ..) 2; have r17H := Lib.hid r17; have p17H := Lib.hid p17; have o17H := Lib.hid o17; clear r17 p17 o17)
      | (go_at_call 21; (first | (with_reducible refine (hSa.out _ _ 0 _ _ (p17H.out.same ((Only.refl [] w17).alloc _)) (r17H.out.none ((Only.refl [] w17).alloc _)) (rowS_one (xa, xs) (Nat.zero_le _))).mono ?_) | (with_reducible refine (hSa.out _ _ 0 _ _ p17H.out r17H.out ((rowS_one (xa, xs) (Nat.zero_le _)).none o17H.out)).mono ?_)); rintro r w18 ⟨rfl, p18⟩; have t1 : w18.cell? ⟨b0, 1, none⟩ = some (.string xa) := p18.cell (List.mem_cons_self ..) 1; have t2 : w18.cell? ⟨b0, 2, none⟩ = some (.int .i64 xs) := p18.cell (List.mem_cons_self ..) 2)
      | (go_at_call 8; ((with_reducible refine (hAl.out _ (by assumption)).mono ?_); rintro r w19 ⟨rfl, p19⟩; have p19H := Lib.hid p19; have t1 : w19.cell? ⟨b0, 1, none⟩ = some (.string xa) := p19.cell (List.mem_cons_self ..) 1; have t2 : w19.cell? ⟨b0, 2, none⟩ = some (.int .i64 xs) := p19.cell (List.mem_cons_self ..) 2; clear p19)))
    all_goals go_wp2_with fail
    all_goals go_ret
    all_goals exact ⟨rfl, p19H.out.most.below (by have := hb0H.out; omega) (by simp)⟩
end Go.Proofs.Ytbaghdfalhlhcaa
