/-
  Two lists of the call's own, one the other read from its end; what each call turns. Rows that are handed over, as they are read.
-/
import Derived.Test.YtnmcedkinacbpaaQ
import Derived.Deep.CutRange
import Derived.Deep.CutBlock
namespace Go.Proofs.Ytnmcedkinacbpaa
open Go.RowKit

/-- A call of a law's, as it is handed over. -/
abbrev Op3 := Int × Int × Int
def OpsAt (w : World) (B : Nat) (A : Option Addr) (l : List Op3) : Prop := ∀ i x, l[i]? = some x → ∃ a, A = some a ∧ a.block < B ∧ w.cell? (a.add (i * 3)) = some (.int .i64 x.1) ∧ w.cell? ⟨(a.add (i * 3)).block, (a.add (i * 3)).off + 1, none⟩ = some (.int .i64 x.2.1) ∧ w.cell? ⟨(a.add (i * 3)).block, (a.add (i * 3)).off + 2, none⟩ = some (.int .i64 x.2.2)
theorem OpsAt.on {w w' : World} {A : Option Addr} {l : List Op3} {B : Nat} (h : OpsAt w B A l) (hb : Below B w w') : OpsAt w' B A l := by
  intro i x hx
  obtain ⟨a, rfl, h1, h2, h3, h4⟩ := h i x hx
  have hab : ∀ j, (a.add j).block < B := fun j => by rw [add_block]; exact h1
  exact ⟨a, rfl, h1, (hb.cell (hab _)).trans h2, (hb.cell (p := ⟨(a.add (i * 3)).block, _, none⟩) (hab _)).trans h3, (hb.cell (p := ⟨(a.add (i * 3)).block, _, none⟩) (hab _)).trans h4⟩
/-- A call's copy, as the round has it. -/
def opObj (x : Op3) : Obj := .cells #[.int .i64 x.1, .int .i64 x.2.1, .int .i64 x.2.2] 28

def Twin (w0 w : World) (D E : Nat) (L M : List Int) (K : List (Nat × Obj)) : Prop :=
  ∃ g N f g' N' f', DQ w D g N f L ∧ DQ w E g' N' f' M ∧ (D ≠ E ∧ D ≠ g' ∧ g ≠ E ∧ g ≠ g') ∧ (w0.heap.size ≤ D ∧ w0.heap.size ≤ g ∧ w0.heap.size ≤ E ∧ w0.heap.size ≤ g') ∧ Only [] w0 w ∧ ∀ q ∈ K, w.heap[q.1]? = some q.2 ∧ q.1 ≠ D ∧ q.1 ≠ g ∧ q.1 ≠ E ∧ q.1 ≠ g'
theorem Twin.swap {w0 w : World} {D E : Nat} {L M : List Int} {K : List (Nat × Obj)} (h : Twin w0 w D E L M K) : Twin w0 w E D M L K := by
  obtain ⟨g, N, f, g', N', f', h1, h2, ⟨d1, d2, d3, d4⟩, ⟨s1, s2, s3, s4⟩, ho, hk⟩ := h
  exact ⟨g', N', f', g, N, f, h2, h1, ⟨fun e => d1 e.symm, fun e => d3 e.symm, fun e => d2 e.symm, fun e => d4 e.symm⟩, ⟨s3, s4, s1, s2⟩, ho, fun q hq => by
    obtain ⟨k1, k2, k3, k4, k5⟩ := hk q hq
    exact ⟨k1, k4, k5, k2, k3⟩⟩
theorem Twin.most {w0 w : World} {D E : Nat} {L M : List Int} {K : List (Nat × Obj)} (h : Twin w0 w D E L M K) : Only [] w0 w := by
  obtain ⟨g, N, f, g', N', f', h1, h2, _, _, ho, hk⟩ := h
  exact ho
theorem Twin.same {w0 w w' : World} {D E : Nat} {L M : List Int} {K : List (Nat × Obj)} (h : Twin w0 w D E L M K) (ho : Only [] w w') : Twin w0 w' D E L M K := by
  obtain ⟨g, N, f, g', N', f', h1, h2, hd, hs, ho', hk⟩ := h
  exact ⟨g, N, f, g', N', f', h1.keep ho (by simp) (by simp), h2.keep ho (by simp) (by simp), hd, hs, ho'.trans ho (by simp), fun q hq => ⟨ho.keep (hk q hq).1 (by simp), (hk q hq).2⟩⟩
theorem Twin.drop {w0 w : World} {D E : Nat} {L M : List Int} {K : List (Nat × Obj)} (h : Twin w0 w D E L M K) : Twin w0 w D E L M [] := by
  obtain ⟨g, N, f, g', N', f', h1, h2, hd, hs, ho, hk⟩ := h
  exact ⟨g, N, f, g', N', f', h1, h2, hd, hs, ho, fun q hq => by simp at hq⟩
theorem Twin.make {w0 w : World} {D E : Nat} {L M : List Int} (h : Twin w0 w D E L M []) (cs : Array Value) (t : TypeId) : Twin w0 (w.alloc (.cells cs t)) D E L M [(w.heap.size, .cells cs t)] := by
  have ho : Only [] w (w.alloc (.cells cs t)) := (Only.refl [] w).alloc _
  obtain ⟨g, N, f, g', N', f', h1, h2, hd, hs, ho', hk⟩ := h
  obtain ⟨l1, l2⟩ := h1.lt
  obtain ⟨l3, l4⟩ := h2.lt
  refine ⟨g, N, f, g', N', f', h1.keep ho (by simp) (by simp), h2.keep ho (by simp) (by simp), hd, hs, ho'.trans ho (by simp), fun q hq => ?_⟩
  obtain rfl := List.mem_singleton.1 hq
  exact ⟨heap_alloc_new w _, by simp only; omega, by simp only; omega, by simp only; omega, by simp only; omega⟩
theorem Twin.cells {w0 w : World} {D E b : Nat} {L M : List Int} {cs : Array Value} {t : TypeId} (h : Twin w0 w D E L M [(b, .cells cs t)]) (j : Nat) : w.cell? ⟨b, j, none⟩ = cs[j]? := by
  obtain ⟨g, N, f, g', N', f', h1, h2, hd, hs, ho, hk⟩ := h
  have := (hk (b, .cells cs t) (by simp)).1
  simp [World.cell?, this]
theorem Twin.call {w0 w : World} {D E : Nat} {L L' M : List Int} {K : List (Nat × Obj)} {f0 : FuncId} {args : Array Value} {v : Value} (h : Twin w0 w D E L M K)
    (hc : ∀ g N f, DQ w D g N f L → Calls Try.prog f0 args w fun e w' => e = .returned v ∧ Left w D g L' w') :
    Calls Try.prog f0 args w fun e w' => e = .returned v ∧ Twin w0 w' D E L' M K := by
  obtain ⟨g, N, f, g', N', f', h1, h2, ⟨d1, d2, d3, d4⟩, ⟨s1, s2, s3, s4⟩, ho, hk⟩ := h
  refine (hc g N f h1).mono fun e w' ⟨he, hl⟩ => ⟨he, ?_⟩
  obtain ⟨g1, N1, f1, k1, k2, k3⟩ := hl
  have hsz := ho.size
  obtain ⟨l1, l2⟩ := h1.lt
  obtain ⟨l3, l4⟩ := h2.lt
  have hE : E ∉ [D, g] := by simp; exact ⟨fun e => d1 e.symm, fun e => d3 e.symm⟩
  have hg' : g' ∉ [D, g] := by simp; exact ⟨fun e => d2 e.symm, fun e => d4 e.symm⟩
  refine ⟨g1, N1, f1, g', N', f', k1, h2.keep k2 hE hg', ⟨d1, d2, ?_, ?_⟩, ⟨s1, ?_, s3, s4⟩, ho.trans k2 (fun x hx => Or.inr ?_), fun q hq => ?_⟩
  · rcases k3 with rfl | k3
    · exact d3
    · omega
  · rcases k3 with rfl | k3
    · exact d4
    · omega
  · rcases k3 with rfl | k3
    · exact s2
    · omega
  · rcases List.mem_cons.1 hx with rfl | hx
    · exact s1
    · obtain rfl := List.mem_singleton.1 hx
      exact s2
  · obtain ⟨q1, q2, q3, q4, q5⟩ := hk q hq
    have hqn : q.1 ∉ [D, g] := by simp; exact ⟨q2, q3⟩
    refine ⟨k2.keep q1 hqn, q2, ?_, q4, q5⟩
    rcases k3 with rfl | k3
    · exact q3
    · have := some_lt q1
      omega
theorem Twin.pushD {w0 w : World} {D E : Nat} {L M : List Int} {K : List (Nat × Obj)} (h : Twin w0 w D E L M K) (hl : L.length < 1048576) (front : Bool) (v : Int) :
    Calls Try.prog 8 #[.pointer (some ⟨D, 0, none⟩), .bool front, .int .i64 v] w fun e w' => e = .returned (.bool true) ∧ Twin w0 w' D E (pushF front v L) M K := h.call fun _ _ _ hd => push_any hd hl front v
theorem Twin.pushE {w0 w : World} {D E : Nat} {L M : List Int} {K : List (Nat × Obj)} (h : Twin w0 w D E L M K) (hl : M.length < 1048576) (front : Bool) (v : Int) :
    Calls Try.prog 8 #[.pointer (some ⟨E, 0, none⟩), .bool front, .int .i64 v] w fun e w' => e = .returned (.bool true) ∧ Twin w0 w' D E L (pushF front v M) K :=
  (h.swap.pushD hl front v).mono fun _ _ ⟨h1, h2⟩ => ⟨h1, h2.swap⟩
/-- What a pop answers, and leaves. -/
def popV (front : Bool) (L : List Int) : Int := nth L (endF front L)
theorem Twin.popD {w0 w : World} {D E : Nat} {L M : List Int} {K : List (Nat × Obj)} (h : Twin w0 w D E L M K) (front : Bool) :
    Calls Try.prog 10 #[.pointer (some ⟨D, 0, none⟩), .bool front] w fun e w' => e = .returned (.tuple #[.int .i64 (popV front L), .bool (decide (0 < L.length))]) ∧ Twin w0 w' D E (popF front L) M K := by
  rcases Nat.eq_zero_or_pos L.length with h0 | hp
  · obtain rfl := List.length_eq_zero_iff.1 h0
    have h' := h
    obtain ⟨g, N, f, g', N', f', h1, _⟩ := h
    refine (pop_none (len_any h1.head) front).mono fun e w' ⟨he, ho⟩ => ⟨?_, ?_⟩
    · rw [he]; cases front <;> rfl
    · have : popF front [] = [] := by cases front <;> rfl
      rw [this]
      exact h'.same ho
  · have := h.call fun _ _ _ hd => pop_any hd hp front
    rw [decide_eq_true hp]
    exact this
theorem Twin.popE {w0 w : World} {D E : Nat} {L M : List Int} {K : List (Nat × Obj)} (h : Twin w0 w D E L M K) (front : Bool) :
    Calls Try.prog 10 #[.pointer (some ⟨E, 0, none⟩), .bool front] w fun e w' => e = .returned (.tuple #[.int .i64 (popV front M), .bool (decide (0 < M.length))]) ∧ Twin w0 w' D E L (popF front M) K :=
  (h.swap.popD front).mono fun _ _ ⟨h1, h2⟩ => ⟨h1, h2.swap⟩

theorem push_rev (fr : Bool) (v : Int) (L : List Int) : pushF (!fr) v L.reverse = (pushF fr v L).reverse := by cases fr <;> simp [pushF]
theorem pop_push (fr : Bool) (v : Int) (L : List Int) : popF fr (pushF fr v L) = L ∧ popV fr (pushF fr v L) = v ∧ decide (0 < (pushF fr v L).length) = true := by
  cases fr <;> simp [popF, pushF, popV, endF, nth]
theorem nth_rev (L : List Int) (k : Nat) (hk : k < L.length) : nth L.reverse k = nth L (L.length - 1 - k) := by
  unfold nth
  rw [List.getElem?_reverse hk]
theorem pop_rev (fr : Bool) (L : List Int) : popF (!fr) L.reverse = (popF fr L).reverse ∧ popV (!fr) L.reverse = popV fr L := by
  rcases Nat.eq_zero_or_pos L.length with h0 | hp
  · obtain rfl := List.length_eq_zero_iff.1 h0
    cases fr <;> exact ⟨rfl, rfl⟩
  · constructor
    · have hl : ∀ (b : Bool) (X : List Int), (popF b X).length = X.length - 1 := fun b X => by unfold popF; cases b <;> simp
      apply ext_nth
      · rw [List.length_reverse, hl, hl, List.length_reverse]
      · intro j hj
        rw [List.length_reverse, hl] at hj
        rw [nth_rev _ _ (by rw [hl]; exact hj), hl, nth_pop _ _ _ (by rw [List.length_reverse]; exact hj), nth_pop _ _ _ (by omega)]
        cases fr
        · simp only [Bool.not_false, if_true, Bool.false_eq_true, if_false]
          rw [nth_rev _ _ (by omega)]
          congr 1; omega
        · simp only [Bool.not_true, if_true, Bool.false_eq_true, if_false]
          rw [nth_rev _ _ (by omega)]
          congr 1; omega
    · unfold popV endF
      cases fr
      · simp only [Bool.not_false, if_true, Bool.false_eq_true, if_false]
        rw [nth_rev _ _ hp, Nat.sub_zero]
      · simp only [Bool.not_true, if_true, Bool.false_eq_true, if_false, List.length_reverse]
        rw [nth_rev _ _ (by omega), show L.length - 1 - (L.length - 1) = 0 by omega]
theorem Twin.new {w0 w : World} (ho : Only [] w0 w) {D g N f : Nat} {w1 : World} (h1 : DQ w1 D g N f []) (s1 : w.heap.size ≤ D) (s2 : w.heap.size ≤ g) (o1 : Only [] w w1) {E g' N' f' : Nat} {w2 : World} (h2 : DQ w2 E g' N' f' []) (s3 : w1.heap.size ≤ E) (s4 : w1.heap.size ≤ g') (o2 : Only [] w1 w2) : Twin w0 w2 D E [] [] [] := by
  obtain ⟨l1, l2⟩ := h1.lt
  have e0 := ho.size
  have e1 := o1.size
  exact ⟨g, N, f, g', N', f', h1.keep o2 (by simp) (by simp), h2, ⟨by omega, by omega, by omega, by omega⟩, ⟨by omega, by omega, by omega, by omega⟩, (ho.trans o1 (by simp)).trans o2 (by simp), fun q hq => by simp at hq⟩

end Go.Proofs.Ytnmcedkinacbpaa
