/-
  A list of the call's own, beside the document's row, and blocks that are kept; what each call turns; the law's own far and alive.
-/
import Derived.Test.YtijfipghoilpeaaDoorK
import Derived.Test.YtijfipghoilpeaaDoorL
import Derived.Test.YtijfipghoilpeaaDoorO
import Derived.Test.YtijfipghoilpeaaDoorQ
namespace Go.Proofs.YtijfipghoilpeaaDoor
open Go.RowKit

/-- The call (begun in the world w0) has a list D of its own that holds L, and beside it a row r of its own that holds R, and blocks K that are kept; of what was there before nothing has turned. -/
def Ply (w0 w : World) (D : Nat) (r : Value) (L R : List Sc) (K : List (Nat × Obj)) : Prop :=
  ∃ ns, Sk w D ns ∧ prs ns = L ∧ (∀ b ∈ blks D ns, w0.heap.size ≤ b) ∧ RowS w w0.heap.size r R ∧ (∀ k, r.ownBlock = some k → k ∉ blks D ns) ∧ Only [] w0 w ∧ ∀ q ∈ K, w.heap[q.1]? = some q.2 ∧ q.1 ∉ blks D ns
variable {w0 w : World} {D : Nat} {r : Value} {L R : List Sc} {K : List (Nat × Obj)}
theorem Ply.rises (h : Ply w0 w D r L R K) : Rises L := by
  obtain ⟨ns, h1, rfl, _⟩ := h
  exact h1.ord
theorem Ply.most (h : Ply w0 w D r L R K) : Only [] w0 w := by
  obtain ⟨ns, h1, h2, h3, h4, h5, h6, h7⟩ := h
  exact h6
theorem Ply.rows (h : Ply w0 w D r L R K) : RowS w w0.heap.size r R := by
  obtain ⟨ns, h1, h2, h3, h4, h5, h6, h7⟩ := h
  exact h4
theorem Ply.same {w' : World} (h : Ply w0 w D r L R K) (ho : Only [] w w') : Ply w0 w' D r L R K := by
  obtain ⟨ns, h1, h2, h3, h4, h5, h6, h7⟩ := h
  exact ⟨ns, h1.keep ho (by simp), h2, h3, h4.none ho, h5, h6.trans ho (by simp), fun q hq => ⟨ho.keep (h7 q hq).1 (by simp), (h7 q hq).2⟩⟩
theorem Ply.less {K' : List (Nat × Obj)} (h : Ply w0 w D r L R K) (hK : ∀ q ∈ K', q ∈ K) : Ply w0 w D r L R K' := by
  obtain ⟨ns, h1, h2, h3, h4, h5, h6, h7⟩ := h
  exact ⟨ns, h1, h2, h3, h4, h5, h6, fun q hq => h7 q (hK q hq)⟩
theorem Ply.make (h : Ply w0 w D r L R K) (cs : Array Value) (t : TypeId) : Ply w0 (w.alloc (.cells cs t)) D r L R ((w.heap.size, .cells cs t) :: K) := by
  have ho : Only [] w (w.alloc (.cells cs t)) := (Only.refl [] w).alloc _
  obtain ⟨ns, h1, h2, h3, h4, h5, h6, h7⟩ := h
  refine ⟨ns, h1.keep ho (by simp), h2, h3, h4.none ho, h5, h6.trans ho (by simp), fun q hq => ?_⟩
  rcases List.mem_cons.1 hq with rfl | hq
  · exact ⟨heap_alloc_new w _, fun hm => by have := h1.lt hm; simp at this⟩
  · exact ⟨ho.keep (h7 q hq).1 (by simp), (h7 q hq).2⟩
theorem Ply.cell {b : Nat} {cs : Array Value} {t : TypeId} (h : Ply w0 w D r L R K) (hm : (b, .cells cs t) ∈ K) (j : Nat) : w.cell? ⟨b, j, none⟩ = cs[j]? := by
  obtain ⟨ns, h1, h2, h3, h4, h5, h6, h7⟩ := h
  have := (h7 _ hm).1
  simp [World.cell?, this]
theorem Ply.call {L' : List Sc} {f0 : FuncId} {args : Array Value} {v : Value} (h : Ply w0 w D r L R K)
    (hc : ∀ ns, Sk w D ns → prs ns = L → Calls Tryd.prog f0 args w fun e w' => e = .returned v ∧ Done w D ns L' w') :
    Calls Tryd.prog f0 args w fun e w' => e = .returned v ∧ Ply w0 w' D r L' R K := by
  obtain ⟨ns, h1, h2, h3, h4, h5, h6, h7⟩ := h
  refine (hc ns h1 h2).mono fun _ _ ⟨he, hl⟩ => ⟨he, ?_⟩
  obtain ⟨ns', k1, k2, k3, k4⟩ := hl
  have hsz := h6.size
  refine ⟨ns', k1, k2, fun b hb => ?_, h4.only k3 h5, fun k hk hb => ?_, h6.trans k3 (fun x hx => Or.inr (h3 x hx)), fun q hq => ?_⟩
  · rcases k4 b hb with e | e
    · exact h3 b e
    · omega
  · rcases k4 k hb with e | e
    · exact h5 k hk e
    · have := (h4.lt k hk).2
      omega
  · obtain ⟨q1, q2⟩ := h7 q hq
    refine ⟨k3.keep q1 q2, fun hb => ?_⟩
    rcases k4 _ hb with e | e
    · exact q2 e
    · have := some_lt q1
      omega
theorem Ply.fresh {w' : World} {r' : Value} {R' : List Sc} (h : Ply w0 w D r L R K) (hf : FreshS w r' R' w') : Ply w0 w' D r' L R' K := by
  obtain ⟨ns, h1, h2, h3, h4, h5, h6, h7⟩ := h
  obtain ⟨k1, k2⟩ := hf
  exact ⟨ns, h1.keep k2 (by simp), h2, h3, k1.base h6.size, fun k hk hb => by have := (k1.lt k hk).1; have := h1.lt hb; omega, h6.trans k2 (by simp), fun q hq => ⟨k2.keep (h7 q hq).1 (by simp), (h7 q hq).2⟩⟩
theorem ply_new {w : World} (ho : Only [] w0 w) (sd : Int) (hu : U sd) :
    Calls Tryd.prog 9 #[.int .u64 sd] w fun e w' => e = .returned (.pointer (some ⟨w.heap.size, 0, none⟩)) ∧ Ply w0 w' w.heap.size (.slice none 0 0) [] [] [] := by
  refine (new_any sd hu w).mono fun _ _ ⟨he, h1, h2⟩ => ⟨he, [], h1, rfl, fun b hb => ?_, rowS_nil _ _, fun k hk => by simp [Value.ownBlock] at hk, ho.trans h2 (by simp), fun q hq => by simp at hq⟩
  have : b = w.heap.size := by simpa [blks] using hb
  have := ho.size
  omega
theorem Tabs.later (hT : Tabs w0) (h : Only [] w0 w) : Tabs w := hT.keep h (by simp) (by simp)
theorem Ply.put (h : Ply w0 w D r L R K) (hT : Tabs w0) (hl : L.length < 1000000) (x : Sc) (hx : x.1.size ≤ maxLen) :
    Calls Tryd.prog 12 #[.pointer (some ⟨D, 0, none⟩), scV x] w fun e w' => e = .returned (.bool (!decide (x ∈ L))) ∧ Ply w0 w' D r (putS L x) R K :=
  h.call fun ns hs he => by
    subst he
    exact put_any hs (by simpa [prs] using hl) (hT.later h.most) x hx
theorem Ply.drop (h : Ply w0 w D r L R K) (x : Sc) :
    Calls Tryd.prog 10 #[.pointer (some ⟨D, 0, none⟩), scV x] w fun e w' => e = .returned (.bool (decide (x ∈ L))) ∧ Ply w0 w' D r (dropS L x) R K :=
  h.call fun ns hs he => by
    subst he
    by_cases hx : x ∈ prs ns
    · rw [decide_eq_true hx]
      exact drop_some hs x hx
    · rw [decide_eq_false hx]
      refine (drop_none hs.is_ hs.ord hs.few x hx).mono fun _ _ ⟨he, ho⟩ => ⟨he, ns, hs.keep ho (by simp), by unfold dropS; rw [if_neg hx], ho.mono (by simp), fun b hb => Or.inl hb⟩
theorem Ply.rput (h : Ply w0 w D r L R K) (hr : Rises R) (hl : R.length ≤ 1000000) (x : Sc) :
    Calls Tryd.prog 13 #[r, scV x] w fun e w' => ∃ r', e = .returned (.tuple #[r', .bool (!decide (x ∈ R))]) ∧ Ply w0 w' D r' L (putS R x) K := by
  by_cases hx : x ∈ R
  · rw [decide_eq_true hx, show putS R x = R by unfold putS; rw [if_pos hx]]
    exact (rput_there h.rows hr hl x hx).mono fun _ _ ⟨he, ho⟩ => ⟨r, he, h.same ho⟩
  · rw [decide_eq_false hx]
    exact (rput_new h.rows hr hl x hx).mono fun _ _ ⟨r', he, hf⟩ => ⟨r', he, h.fresh hf⟩
theorem Ply.rdrop (h : Ply w0 w D r L R K) (hr : Rises R) (hl : R.length ≤ 1000000) (x : Sc) :
    Calls Tryd.prog 11 #[r, scV x] w fun e w' => ∃ r', e = .returned (.tuple #[r', .bool (decide (x ∈ R))]) ∧ Ply w0 w' D r' L (dropS R x) K := by
  by_cases hx : x ∈ R
  · rw [decide_eq_true hx]
    exact (rdrop_some h.rows hr hl x hx).mono fun _ _ ⟨r', he, hf⟩ => ⟨r', he, h.fresh hf⟩
  · rw [decide_eq_false hx, show dropS R x = R by unfold dropS; rw [if_neg hx]]
    exact (rdrop_none h.rows hr hl x hx).mono fun _ _ ⟨he, ho⟩ => ⟨r, he, h.same ho⟩
theorem Ply.ask {f0 : FuncId} {args : Array Value} {v : Value} (h : Ply w0 w D r L R K)
    (hc : ∀ ns, Sk w D ns → prs ns = L → Calls Tryd.prog f0 args w fun e w' => e = .returned v ∧ Only [] w w') :
    Calls Tryd.prog f0 args w fun e w' => e = .returned v ∧ Ply w0 w' D r L R K ∧ Only [] w w' := by
  have h' := h
  obtain ⟨ns, h1, h2, _⟩ := h
  exact (hc ns h1 h2).mono fun _ _ ⟨he, ho⟩ => ⟨he, h'.same ho, ho⟩
theorem Ply.at_ (h : Ply w0 w D r L R K) (i : Int) (hi : -9223372036854775808 ≤ i ∧ i ≤ 9223372036854775807) :
    Calls Tryd.prog 14 #[.pointer (some ⟨D, 0, none⟩), .int .i64 i] w fun e w' => e = .returned (atV L i) ∧ Ply w0 w' D r L R K ∧ Only [] w w' :=
  h.ask fun ns hs he => by subst he; exact At_any hs.is_ hs.few i hi
theorem Ply.len (h : Ply w0 w D r L R K) :
    Calls Tryd.prog 15 #[.pointer (some ⟨D, 0, none⟩)] w fun e w' => e = .returned (.int .i64 (L.length : Nat)) ∧ w = w' := by
  obtain ⟨ns, h1, rfl, _⟩ := h
  have := h1.is_.len
  simpa [prs] using this
theorem Ply.rank (h : Ply w0 w D r L R K) (x : Sc) :
    Calls Tryd.prog 16 #[.pointer (some ⟨D, 0, none⟩), scV x] w fun e w' => e = .returned (.int .i64 (rnk L x)) ∧ Ply w0 w' D r L R K ∧ Only [] w w' :=
  h.ask fun ns hs he => by subst he; exact rank_any hs.is_ hs.ord hs.few x
theorem Ply.ahead (h : Ply w0 w D r L R K) (x : Sc) :
    Calls Tryd.prog 18 #[.pointer (some ⟨D, 0, none⟩), scV x] w fun e w' => e = .returned (.int .i64 ((ahd L x : Nat) : Int)) ∧ Ply w0 w' D r L R K ∧ Only [] w w' :=
  h.ask fun ns hs he => by subst he; exact ahead_any hs.is_ hs.ord hs.few x
theorem Ply.below (h : Ply w0 w D r L R K) (s : Int) (op : Bool) :
    Calls Tryd.prog 20 #[.pointer (some ⟨D, 0, none⟩), .int .i64 s, .bool op] w fun e w' => e = .returned (.int .i64 ((blw L s op : Nat) : Int)) ∧ Ply w0 w' D r L R K ∧ Only [] w w' :=
  h.ask fun ns hs he => by subst he; exact below_any hs.is_ hs.ord hs.few s op
theorem Ply.rrank (h : Ply w0 w D r L R K) (hr : Rises R) (hl : R.length ≤ 1000000) (x : Sc) :
    Calls Tryd.prog 17 #[r, scV x] w fun e w' => e = .returned (.int .i64 (rnk R x)) ∧ Ply w0 w' D r L R K ∧ Only [] w w' :=
  (rrank_any h.rows hr hl x).mono fun _ _ ⟨he, ho⟩ => ⟨he, h.same ho, ho⟩
theorem Ply.rahead (h : Ply w0 w D r L R K) (hl : R.length ≤ 1000000) (x : Sc) :
    Calls Tryd.prog 19 #[r, scV x] w fun e w' => e = .returned (.int .i64 ((ahd R x : Nat) : Int)) ∧ Ply w0 w' D r L R K ∧ Only [] w w' :=
  (rahead_any h.rows hl x).mono fun _ _ ⟨he, ho⟩ => ⟨he, h.same ho, ho⟩
theorem Ply.rbelow (h : Ply w0 w D r L R K) (hl : R.length ≤ 1000000) (s : Int) (op : Bool) :
    Calls Tryd.prog 21 #[r, .int .i64 s, .bool op] w fun e w' => e = .returned (.int .i64 ((blw R s op : Nat) : Int)) ∧ Ply w0 w' D r L R K ∧ Only [] w w' :=
  (rbelow_any h.rows hl s op).mono fun _ _ ⟨he, ho⟩ => ⟨he, h.same ho, ho⟩
theorem Ply.cut (h : Ply w0 w D r L R K) (i j : Int) (hi : -9223372036854775808 ≤ i ∧ i ≤ 9223372036854775807) (hj : -9223372036854775808 ≤ j ∧ j ≤ 9223372036854775807) :
    Calls Tryd.prog 23 #[.pointer (some ⟨D, 0, none⟩), .int .i64 i, .int .i64 j] w fun e w' => ∃ v, e = .returned v ∧ RowS w' w.heap.size v (cutS L i j) ∧ Ply w0 w' D r L R K ∧ Only [] w w' := by
  have h' := h
  obtain ⟨ns, h1, rfl, _⟩ := h
  exact (cut_any h1.is_ h1.few i j hi hj).mono fun _ _ ⟨v, he, hf⟩ => ⟨v, he, hf.1, h'.same hf.2, hf.2⟩
theorem Ply.rcut (h : Ply w0 w D r L R K) (hl : R.length ≤ 1000000) (i j : Int) :
    Calls Tryd.prog 24 #[r, .int .i64 i, .int .i64 j] w fun e w' => ∃ v, e = .returned v ∧ RowS w' w.heap.size v (cutS R i j) ∧ Ply w0 w' D r L R K ∧ Only [] w w' :=
  (rcut_any h.rows i j hl).mono fun _ _ ⟨v, he, hf⟩ => ⟨v, he, hf.1, h.same hf.2, hf.2⟩
theorem Ply.equal {B B' : Nat} {u u' : Value} {M M' : List Sc} (h : Ply w0 w D r L R K) (hu : RowS w B u M) (hu' : RowS w B' u' M') (hl : M.length ≤ 1000000) :
    Calls Tryd.prog 22 #[u, u'] w fun e w' => e = .returned (.bool (decide (M = M'))) ∧ Ply w0 w' D r L R K ∧ Only [] w w' :=
  (rsame_any hu hu' hl).mono fun _ _ ⟨he, ho⟩ => ⟨he, h.same ho, ho⟩

theorem alive_l1 : putS [] ((⟨#[98]⟩, 1) : Sc) = [(⟨#[98]⟩, 1)] := by decide +kernel
theorem alive_l2 : putS [(⟨#[98]⟩, 1)] ((⟨#[97]⟩, 2) : Sc) = [(⟨#[98]⟩, 1), (⟨#[97]⟩, 2)] := by decide +kernel
theorem alive_l3 : putS [(⟨#[98]⟩, 1), (⟨#[97]⟩, 2)] ((⟨#[99]⟩, 1) : Sc) = [(⟨#[98]⟩, 1), (⟨#[99]⟩, 1), (⟨#[97]⟩, 2)] := by decide +kernel
theorem alive_m1 : decide (((⟨#[98]⟩, 1) : Sc) ∈ ([] : List Sc)) = false := by decide +kernel
theorem alive_m2 : decide (((⟨#[97]⟩, 2) : Sc) ∈ ([(⟨#[98]⟩, 1)] : List Sc)) = false := by decide +kernel
theorem alive_m3 : decide (((⟨#[99]⟩, 1) : Sc) ∈ ([(⟨#[98]⟩, 1), (⟨#[97]⟩, 2)] : List Sc)) = false := by decide +kernel
theorem alive_b1 : blw ([(⟨#[98]⟩, 1), (⟨#[99]⟩, 1), (⟨#[97]⟩, 2)] : List Sc) 1 false = 0 := by decide +kernel
theorem alive_b2 : blw ([(⟨#[98]⟩, 1), (⟨#[99]⟩, 1), (⟨#[97]⟩, 2)] : List Sc) 1 true = 2 := by decide +kernel
theorem alive_at : atV ([(⟨#[98]⟩, 1), (⟨#[99]⟩, 1), (⟨#[97]⟩, 2)] : List Sc) 2 = .tuple #[.agg #[.string ⟨#[97]⟩, .int .i64 2], .bool true] := by rfl
set_option maxHeartbeats 4000000 in
theorem alive_any (w : World) (hT : Tabs w) : Calls Tryd.prog 8 #[] w fun e w' => e = .returned (.bool true) ∧ Only [] w w' := by
  have hN := Lib.hid (ply_new (Only.refl [] w) 1 (by unfold U; omega))
  have hTH := Lib.hid hT
  clear hT
  go_enter Tryd.func8, Tryd.ntmps8
  generalize w.heap.size = D at *
  go_wp2_with (first
    | (go_at_call 9; ((with_reducible refine (hN.out).mono ?_); rintro e w1 ⟨rfl, h1⟩; have hP1 := Lib.hid h1; have hS1 := h1.put hTH.out (by decide) (⟨#[98]⟩, 1) (by decide); rw [alive_l1, alive_m1] at hS1; unfold scV at hS1; have hS1H := Lib.hid hS1; clear h1 hS1))
    | (go_at_call 12; ((with_reducible refine (hS1H.out).mono ?_); rintro e w2 ⟨rfl, h2⟩; have hS2 := h2.put hTH.out (by decide) (⟨#[97]⟩, 2) (by decide); rw [alive_l2, alive_m2] at hS2; unfold scV at hS2; have hS2H := Lib.hid hS2; clear h2 hS2))
    | (go_at_call 12; ((with_reducible refine (hS2H.out).mono ?_); rintro e w3 ⟨rfl, h3⟩; have hS3 := h3.put hTH.out (by decide) (⟨#[99]⟩, 1) (by decide); rw [alive_l3, alive_m3] at hS3; unfold scV at hS3; have hS3H := Lib.hid hS3; clear h3 hS3))
    | (go_at_call 12; ((with_reducible refine (hS3H.out).mono ?_); rintro e w4 ⟨rfl, h4⟩; have hA4' := h4.at_ 2 (by omega); rw [alive_at] at hA4'; have hA4 := Lib.hid hA4'; clear hA4'; clear h4))
    | (go_at_call 14; ((with_reducible refine (hA4.out).mono ?_); rintro e w5 ⟨rfl, h5, _⟩; have hM5 := (h5.make #[.string ⟨#[97]⟩, .int .i64 2] 30); have hM5H := Lib.hid hM5; have q0 := hM5.cell (List.mem_cons_self ..) 0; have q1 := hM5.cell (List.mem_cons_self ..) 1; have hB1 := hM5.below 1 false; rw [alive_b1] at hB1; have hB1H := Lib.hid hB1; clear h5 hM5 hB1))
    | (go_at_call 20; ((with_reducible refine (hB1H.out).mono ?_); rintro e w6 ⟨rfl, h6, _⟩; have hB2 := h6.below 1 true; rw [alive_b2] at hB2; have hB2H := Lib.hid hB2; clear h6 hB2))
    | (go_at_call 20; ((with_reducible refine (hB2H.out).mono ?_); rintro e w7 ⟨rfl, h7, _⟩; have hLn := Lib.hid h7.len; have hP7 := Lib.hid h7; clear h7))
    | (go_at_call 15; ((with_reducible refine (hLn.out).mono ?_); rintro e w' ⟨rfl, rfl⟩)))
  all_goals go_ret
  exact ⟨rfl, hP7.out.most⟩
end Go.Proofs.YtijfipghoilpeaaDoor
