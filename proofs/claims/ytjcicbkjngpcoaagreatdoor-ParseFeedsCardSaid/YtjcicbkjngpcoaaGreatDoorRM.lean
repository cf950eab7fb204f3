/-
  The walk of the law of requests among any bytes. Premises: the library's variable ErrSyntax holds an error, or none.
-/
import Derived.Test.YtjcicbkjngpcoaaGreatDoorRK
import Derived.Test.YtjcicbkjngpcoaaGreatDoorQS
import Derived.Deep.RegionHeld3
namespace Go.Proofs.YtjcicbkjngpcoaaGreatDoor
open Go.RowKit Dec Pq S4

/-- What is under way and the fault, as the end of a feed says them. -/
def VD (R : Sum Int Inp) (x : MI) (d : Int) : Prop := match R with
  | .inl k => k ≠ 0 ∧ d = k ∧ x = MI.none ⟨#[]⟩
  | .inr y => d = 0 ∧ x.inp = y
/-- The four ways of what Idle answers. -/
def Way (x : MI) (d : Int) (a : Option Addr) (c : Nat) : Prop :=
  (x = MI.none ⟨#[]⟩ ∧ d ≠ 0 ∧ a = none ∧ c = 0) ∨ (x.rest.toList.isEmpty = false ∧ d = 0) ∨ (x.rest = ⟨#[]⟩ ∧ 0 < x.size ∧ d = 0) ∨ (x = MI.none ⟨#[]⟩ ∧ d = 0 ∧ a = none ∧ c = 0)
theorem toList_nil {r : ByteArray} (h : r.toList.isEmpty = true) : r = ⟨#[]⟩ := by
  have h1 : r.data.toList = [] := by rw [← Lib.toList_data]; simpa using h
  obtain ⟨⟨l⟩⟩ := r
  simp at h1
  rw [h1]
theorem feed_form {w w' : World} {A n : Nat} {R : Sum Int Inp × List Rq} {e : Ending} (h : FeedEnd w A n R e w') (hA : A ≤ 65536) (hs : ∀ y, R.1 = .inr y → Sz y) : ∃ (x : MI) (d : Int) (a : Option Addr) (c : Nat) (q : List MR) (Aq : Option Addr) (cq : Nat),
    e = .returned (.tuple #[.agg #[.string x.rest, .slice a x.args.length c, .int .i64 x.left, .int .i64 x.size, .bool x.body, .int .i64 x.need, .int .i64 d], .slice Aq q.length cq, .int .i64 d]) ∧ Below w.heap.size w w' ∧ SOk w' Tr a x.args ∧ Rqs w' Tr Aq q ∧ q.map rq = R.2 ∧ VD R.1 x d ∧ x.args.length ≤ 65536 ∧ q.length ≤ n ∧ Way x d a c := by
  obtain ⟨R1, R2⟩ := R
  obtain ⟨hb, q, Aq, cq, hq, _, hr, hn, hR⟩ := h
  have hr' : Rqs w' Tr Aq q := hr.keep (fun _ _ _ => rfl) (Nat.le_refl _) (fun _ _ _ => trivial)
  cases R1 with
  | inl k =>
    obtain ⟨hk, he⟩ := hR
    exact ⟨MI.none ⟨#[]⟩, k, none, 0, q, Aq, cq, he, hb, (fun i x hx => by simp [MI.none] at hx), hr', hq, ⟨hk, rfl, rfl⟩, by simp [MI.none], hn, Or.inl ⟨rfl, hk, rfl, rfl⟩⟩
  | inr y =>
    obtain ⟨my, a, c, hmy, hok, _, hac, hs1, he⟩ := hR
    have hsz := hs y rfl
    refine ⟨my, 0, a, c, q, Aq, cq, he, hb, hs1.free, hr', hq, ⟨rfl, hmy⟩, ?_, hn, ?_⟩
    · by_cases h0 : my.left = 0
      · rw [(hok.1 h0).1]; simp
      · have := hok.2 h0; omega
    · cases hem : my.rest.toList.isEmpty with
      | false => exact Or.inr (Or.inl ⟨hem, rfl⟩)
      | true =>
        have hre := toList_nil hem
        by_cases hz : my.size = 0
        · have hl : my.left = 0 := by
            have h1 : y.left ≠ 0 → y.size ≠ 0 := hsz
            rw [← hmy] at h1
            by_cases h : my.left = 0
            · exact h
            · exact absurd hz (h1 h)
          obtain ⟨k1, k2, k3, k4⟩ := hok.1 hl
          obtain ⟨rfl, rfl⟩ := hac k1
          obtain ⟨r, ar, lf, sz, bd, nd⟩ := my
          simp only at k1 k2 k3 k4 hl hre
          subst k1 k2 k3 k4 hl hre
          exact Or.inr (Or.inr (Or.inr ⟨rfl, rfl, rfl, rfl⟩))
        · exact Or.inr (Or.inr (Or.inl ⟨hre, by omega, rfl⟩))
theorem all_form {w w' : World} {R : Sum Int Inp × List Rq} {e : Ending} {x : MI} {d : Int} {q : List MR} (h : AllEnd R w e w') (hv : VD R.1 x d) (hq : q.map rq = R.2) : ∃ (a : Option Addr) (c : Nat) (Aq : Option Addr) (cq : Nat),
    e = .returned (.tuple #[.agg #[.string x.rest, .slice a x.args.length c, .int .i64 x.left, .int .i64 x.size, .bool x.body, .int .i64 x.need, .int .i64 d], .slice Aq q.length cq]) ∧ Below w.heap.size w w' ∧ SOk w' Tr a x.args ∧ Rqs w' Tr Aq q := by
  obtain ⟨R1, R2⟩ := R
  obtain ⟨hb, q', Aq, cq, hq', hr, hR⟩ := h
  obtain rfl : q' = q := rqs_inj (hq'.trans hq.symm)
  cases R1 with
  | inl k =>
    obtain ⟨hk, he⟩ := hR
    obtain ⟨_, rfl, rfl⟩ := hv
    exact ⟨none, 0, Aq, cq, he, hb, (fun i x hx => by simp [MI.none] at hx), hr⟩
  | inr y =>
    obtain ⟨my, a, c, hmy, hs1, he⟩ := hR
    obtain ⟨rfl, hx⟩ := hv
    obtain rfl : my = x := mi_inj (hmy.trans hx.symm)
    exact ⟨a, c, Aq, cq, he, hb, hs1, hr⟩
theorem none_addF (b : ByteArray) : (MI.none ⟨#[]⟩).inp.add b.data.toList = Inp.none b.data.toList := by
  simp [MI.none, MI.inp, Inp.add, Inp.none, txt]
theorem one_sok {W : World} {b : Nat} {s : ByteArray} (h : W.heap[b]? = some (.cells #[.string s] 9 (0, 0))) : SOk W Tr (some ⟨b, 0, none⟩) [s] := by
  intro i x hx
  match i, hx with
  | 0, hx =>
    obtain rfl := Option.some.inj hx
    exact ⟨_, rfl, trivial, heap_lt h, Lib.cell_of_heap h 0⟩
theorem far_one {b : Nat} {s : ByteArray} {w : World} (h : SOk w Tr (some ⟨b, 0, none⟩) [s]) (F : Bool) (hF : Hid (farL [s] = F)) : Calls Tryz.prog 5 #[.slice (some ⟨b, 0, none⟩) 1 1] w fun e w' => e = .returned (.bool F) ∧ w = w' :=
  far_any (some ⟨b, 0, none⟩) 1 [s] w h (by simp) F hF
theorem feed_new (s : ByteArray) (la lb ll : Int) (A B L : Nat) (w : World) (hA : Hid (betw la 1 65536 = A)) (hB : Hid (betw lb 1 1048576 = B)) (hL : Hid (betw ll 1 65536 = L)) (hA2 : A ≤ 65536) (hB2 : B ≤ 1048576) (hL2 : L ≤ 65536) (hs : s.size ≤ 5000) (hE : ErrAt w) :
    Calls Tryz.prog 7 #[.agg #[.string ⟨#[]⟩, .slice none 0 0, .int .i64 0, .int .i64 0, .bool false, .int .i64 0, .int .i64 0], .string s, .agg #[.int .i64 la, .int .i64 lb, .int .i64 ll]] w (FeedEnd w A (0 + 0 + s.size) (feedF A B L (Inp.none s.data.toList))) := by
  have h := feed_any (MI.none ⟨#[]⟩) none 0 s la lb ll A B L w hA hB hL hA2 hB2 hL2 (none_ok _) (by show 0 + 0 + s.size ≤ 1000000; omega) ⟨fun _ => ⟨rfl, rfl⟩, fun i x hx => by simp [MI.none] at hx⟩ hE hE
  rw [none_addF] at h
  exact h
theorem heldF {w6 : World} {g h p : Nat} {r : ByteArray} {a1 a2 : Option Addr} {c1 c2 n lf sz nd : Nat} {bd : Bool} {d la lb ll : Int}
    (hg : w6.heap[g]? = some (.cells #[.string r, .slice a1 n c1, .int .i64 lf, .int .i64 sz, .bool bd, .int .i64 nd, .int .i64 d] 29 (0, 0)))
    (hh : w6.heap[h]? = some (.cells #[.string r, .slice a2 n c2, .int .i64 lf, .int .i64 sz, .bool bd, .int .i64 nd, .int .i64 d] 29 (0, 0)))
    (hp : w6.heap[p]? = some (.cells #[.int .i64 la, .int .i64 lb, .int .i64 ll] 23 (0, 0))) {W : World} (hb : Below w6.heap.size w6 W) :
    W.cell? ⟨g, 0, none⟩ = some (.string r) ∧ W.cell? ⟨g, 1, none⟩ = some (.slice a1 n c1) ∧ W.cell? ⟨g, 2, none⟩ = some (.int .i64 (lf : Int)) ∧ W.cell? ⟨g, 3, none⟩ = some (.int .i64 (sz : Int)) ∧ W.cell? ⟨g, 4, none⟩ = some (.bool bd) ∧ W.cell? ⟨g, 5, none⟩ = some (.int .i64 (nd : Int)) ∧ W.cell? ⟨g, 6, none⟩ = some (.int .i64 d) ∧ W.cell? ⟨h, 0, none⟩ = some (.string r) ∧ W.cell? ⟨h, 1, none⟩ = some (.slice a2 n c2) ∧ W.cell? ⟨h, 2, none⟩ = some (.int .i64 (lf : Int)) ∧ W.cell? ⟨h, 3, none⟩ = some (.int .i64 (sz : Int)) ∧ W.cell? ⟨h, 4, none⟩ = some (.bool bd) ∧ W.cell? ⟨h, 5, none⟩ = some (.int .i64 (nd : Int)) ∧ W.cell? ⟨h, 6, none⟩ = some (.int .i64 d) ∧ W.cell? ⟨p, 0, none⟩ = some (.int .i64 la) ∧ W.cell? ⟨p, 1, none⟩ = some (.int .i64 lb) ∧ W.cell? ⟨p, 2, none⟩ = some (.int .i64 ll) ∧ Below w6.heap.size w6 W := by
  obtain ⟨i0, i1, i2, i3, i4, i5, i6, _⟩ := in_facts ((hb.block g (heap_lt hg)).trans hg)
  obtain ⟨j0, j1, j2, j3, j4, j5, j6, _⟩ := in_facts ((hb.block h (heap_lt hh)).trans hh)
  obtain ⟨l0, l1, l2⟩ := lim_facts ((hb.block p (heap_lt hp)).trans hp)
  exact ⟨i0, i1, i2, i3, i4, i5, i6, j0, j1, j2, j3, j4, j5, j6, l0, l1, l2, hb⟩
theorem last18 {P0 P1 P2 P3 P4 P5 P6 Q0 Q1 Q2 Q3 Q4 Q5 Q6 L0 L1 L2 B : Prop} (h : P0 ∧ P1 ∧ P2 ∧ P3 ∧ P4 ∧ P5 ∧ P6 ∧ Q0 ∧ Q1 ∧ Q2 ∧ Q3 ∧ Q4 ∧ Q5 ∧ Q6 ∧ L0 ∧ L1 ∧ L2 ∧ B) : B := h.2.2.2.2.2.2.2.2.2.2.2.2.2.2.2.2.2
set_option warningAsError false in
set_option maxRecDepth 100000 in
set_option maxHeartbeats 8000000 in
theorem feeds_any (s : ByteArray) (la lb ll : Int) (w : World) (hE : ErrAt w) :
    Calls Tryz.prog 3 #[.string s, .agg #[.int .i64 la, .int .i64 lb, .int .i64 ll]] w fun e w' => e = .returned (.bool true) ∧ Below w.heap.size w w' := by
  have n1 := heap_alloc_new w (.cells #[.int .i64 la, .int .i64 lb, .int .i64 ll] 23)
  have hb1 := (Below.refl w.heap.size w).alloc (Nat.le_refl _) (.cells #[.int .i64 la, .int .i64 lb, .int .i64 ll] 23)
  have hs1 : (w.alloc (.cells #[.int .i64 la, .int .i64 lb, .int .i64 ll] 23)).heap.size = w.heap.size + 1 := by simp
  have n2 := heap_alloc_new (w.alloc (.cells #[.int .i64 la, .int .i64 lb, .int .i64 ll] 23)) (.cells #[.string s] 9)
  rw [hs1] at n2
  have n1' := (Lib.alloc_old (w.alloc (.cells #[.int .i64 la, .int .i64 lb, .int .i64 ll] 23)) (.cells #[.string s] 9) w.heap.size (by omega)).trans n1
  have hb2 := hb1.alloc (by omega) (.cells #[.string s] 9)
  have hs2 : ((w.alloc (.cells #[.int .i64 la, .int .i64 lb, .int .i64 ll] 23)).alloc (.cells #[.string s] 9)).heap.size = w.heap.size + 2 := by simp
  obtain ⟨A, hA⟩ : ∃ A : Nat, betw la 1 65536 = (A : Int) := ⟨(betw la 1 65536).toNat, by unfold betw; omega⟩
  obtain ⟨B, hB⟩ : ∃ B : Nat, betw lb 1 1048576 = (B : Int) := ⟨(betw lb 1 1048576).toNat, by unfold betw; omega⟩
  obtain ⟨L, hL⟩ : ∃ L : Nat, betw ll 1 65536 = (L : Int) := ⟨(betw ll 1 65536).toNat, by unfold betw; omega⟩
  have hA2 : A ≤ 65536 := by unfold betw at hA; omega
  have hB2 : B ≤ 1048576 := by unfold betw at hB; omega
  have hL2 : L ≤ 65536 := by unfold betw at hL; omega
  have hAH := Lib.hid hA
  have hBH := Lib.hid hB
  have hLH := Lib.hid hL
  clear hA hB hL n1
  have hsk := Lib.hid (one_sok n2)
  have hEH := Lib.hid (hE.on hb2)
  have hb2H := Lib.hid hb2
  have n1H := Lib.hid n1'
  clear hE hb1 hb2 n2 n1'
  cases hF : farL [s] with
  | true =>
    have hFa := Lib.hid (far_one hsk.out true (Lib.hid hF))
    go_enter Tryz.func3, Tryz.ntmps3
    go_wp2_with (first
      | (go_at_call 5; ((with_reducible refine hFa.out.mono ?_); rintro e w' ⟨rfl, rfl⟩))
      | (go_at_call 6; ((with_reducible refine (alive_any _ hEH.out).mono ?_); rintro e w' ⟨rfl, hb3⟩)))
    go_ret
    exact ⟨rfl, onB hb2H.out hb3⟩
  | false =>
    have hFa := Lib.hid (far_one hsk.out false (Lib.hid hF))
    have hT1 : s.size ≤ 5000 := by
      unfold farL tot1 at hF
      simp at hF
      omega
    have hFd := Lib.hid (fun W (hW : ErrAt W) => feed_new s la lb ll A B L W hAH hBH hLH hA2 hB2 hL2 hT1 hW)
    have hAl := Lib.hid (fun W => rall_any s la lb ll A B L W hAH hBH hLH hA2 hB2 hL2 hT1)
    have hfew : Hid (∀ q : List MR, q.map rq = (feedF A B L (Inp.none s.data.toList)).2 → ∀ p ∈ q, p.1.length ≤ 1000000) := Lib.hid fun q hq => few_all hq.symm hA2
    have hszs : Hid (∀ y, (feedF A B L (Inp.none s.data.toList)).1 = .inr y → Sz y) := Lib.hid fun y hy => feed_sz _ (Inp.none s.data.toList) y (Nat.lt_succ_self _) (fun h => absurd rfl h) hy
    generalize feedF A B L (Inp.none s.data.toList) = RR at hFd hAl hfew hszs
    clear hF
    go_enter Tryz.func3, Tryz.ntmps3
    go_upto_region 3 with (go_at_call 5; ((with_reducible refine hFa.out.mono ?_); rintro e w' ⟨rfl, rfl⟩))
    clear hFa hsk
    generalize (w.alloc (.cells #[.int .i64 la, .int .i64 lb, .int .i64 ll] 23)).alloc (.cells #[.string s] 9) = W0 at n1H hs2 hEH hb2H ⊢
    obtain ⟨l0, l1, l2⟩ := lim_facts n1H.out
    have hlt : w.heap.size < W0.heap.size := by omega
    clear hs1 hs2
    have hF0 := Lib.hid (hFd.out W0 hEH.out)
    clear hFd
    go_upto_region 4 with (go_at_call 7; ((with_reducible refine hF0.out.mono ?_); intro e w1 hfe; obtain ⟨x, d, a1, c1, q, Aq, cq, rfl, hbf, hs5, hr5, hq5, hv5, hx5, hn5, hway⟩ := feed_form hfe hA2 hszs.out; clear hfe))
    obtain ⟨r, ar, lf, sz, bd, nd⟩ := x
    simp only at hs5 hx5 ⊢
    have hnI := heap_alloc_new w1 (.cells #[.string r, .slice a1 ar.length c1, .int .i64 (lf : Int), .int .i64 (sz : Int), .bool bd, .int .i64 (nd : Int), .int .i64 d] 29)
    have hbI : Below W0.heap.size W0 (w1.alloc (.cells #[.string r, .slice a1 ar.length c1, .int .i64 (lf : Int), .int .i64 (sz : Int), .bool bd, .int .i64 (nd : Int), .int .i64 d] 29)) := hbf.alloc hbf.size _
    have hoI : Below w1.heap.size w1 (w1.alloc (.cells #[.string r, .slice a1 ar.length c1, .int .i64 (lf : Int), .int .i64 (sz : Int), .bool bd, .int .i64 (nd : Int), .int .i64 d] 29)) := (Below.refl _ _).alloc (Nat.le_refl _) _
    have hs6 := Lib.hid (hs5.on hoI)
    have hr6 := Lib.hid (hr5.on hoI)
    clear hs5 hr5 hoI hbf hF0 l0 l1 l2
    generalize w1.alloc (.cells #[.string r, .slice a1 ar.length c1, .int .i64 (lf : Int), .int .i64 (sz : Int), .bool bd, .int .i64 (nd : Int), .int .i64 d] 29) = W1 at hnI hbI hs6 hr6 ⊢
    generalize w1.heap.size = g at hnI ⊢
    have hp1 := (hbI.block w.heap.size hlt).trans n1H.out
    obtain ⟨l0, l1, l2⟩ := lim_facts hp1
    have hp1H := Lib.hid hp1
    have hnIH := Lib.hid hnI
    have hbIH := Lib.hid hbI
    have hA0 := Lib.hid (hAl.out W1)
    clear hp1 hnI hbI hAl
    go_upto_region 5 with (go_at_call 8; ((with_reducible refine hA0.out.mono ?_); intro e w2 hfe; obtain ⟨a2, c2, Ar, cr, rfl, hba, hs7, hr7⟩ := all_form hfe hv5 hq5; clear hfe))
    have hnJ := heap_alloc_new w2 (.cells #[.string r, .slice a2 ar.length c2, .int .i64 (lf : Int), .int .i64 (sz : Int), .bool bd, .int .i64 (nd : Int), .int .i64 d] 29)
    have hbJ : Below W1.heap.size W1 (w2.alloc (.cells #[.string r, .slice a2 ar.length c2, .int .i64 (lf : Int), .int .i64 (sz : Int), .bool bd, .int .i64 (nd : Int), .int .i64 d] 29)) := hba.alloc hba.size _
    have hoJ : Below w2.heap.size w2 (w2.alloc (.cells #[.string r, .slice a2 ar.length c2, .int .i64 (lf : Int), .int .i64 (sz : Int), .bool bd, .int .i64 (nd : Int), .int .i64 d] 29)) := (Below.refl _ _).alloc (Nat.le_refl _) _
    have hs8 := Lib.hid (hs7.on hoJ)
    have hr8 := Lib.hid (hr7.on hoJ)
    clear hs7 hr7 hoJ hba hA0 l0 l1 l2
    generalize w2.alloc (.cells #[.string r, .slice a2 ar.length c2, .int .i64 (lf : Int), .int .i64 (sz : Int), .bool bd, .int .i64 (nd : Int), .int .i64 d] 29) = w6 at hnJ hbJ hs8 hr8 ⊢
    generalize w2.heap.size = h at hnJ ⊢
    have hnI6 := (hbJ.block g (heap_lt hnIH.out)).trans hnIH.out
    have hp6 := (hbJ.block w.heap.size (heap_lt hp1H.out)).trans hp1H.out
    have hs9 := Lib.hid (hs6.out.on hbJ)
    have hr9 := Lib.hid (hr6.out.on hbJ)
    have hW6 : Below w.heap.size w w6 := onB (onB hb2H.out hbIH.out) hbJ
    have hW6H := Lib.hid hW6
    have hE6 := Lib.hid (hEH.out.on (onB hbIH.out hbJ))
    have hheld := Lib.hid (fun (W : World) (hb : Below w6.heap.size w6 W) => heldF hnI6 hnJ hp6 hb)
    have hfewq := Lib.hid (hfew.out q hq5)
    have hql : q.length ≤ 1000000 := by
      have : q.length ≤ 0 + 0 + s.size := hn5
      omega
    have hqlH := Lib.hid hql
    have hx5H := Lib.hid hx5
    clear hnI6 hp6 hW6 hs6 hr6 hbJ hnJ hql hx5 hn5 hfew hszs hq5 hv5 hnIH hbIH hp1H hEH hb2H n1H hT1
    have hSI := Lib.hid (fun (W : World) (hb : Below w6.heap.size w6 W) => rinput_any r a1 a2 c1 c2 ar lf sz nd bd d W (by have := hx5H.out; omega) (hs9.out.on hb) (hs8.out.on hb))
    have hSm := Lib.hid (fun (W : World) (hb : Below w6.heap.size w6 W) => rsame_any Aq Ar cq cr q W hqlH.out (hr9.out.on hb) (hr8.out.on hb) hfewq.out)
    have hAv := Lib.hid (fun (W : World) (hb : Below w6.heap.size w6 W) => alive_any W (hE6.out.on hb))
    have hId : Hid (((∀ W, Calls Tryz.prog 13 #[.agg #[.string r, .slice a1 ar.length c1, .int .i64 lf, .int .i64 sz, .bool bd, .int .i64 nd, .int .i64 d]] W fun e w' => e = .returned (.bool false) ∧ Below W.heap.size W w') ∧
        (r.toList.isEmpty = false ∨ (r.toList.isEmpty = true ∧ ((sz : Int) == 0) = false) ∨ (r.toList.isEmpty = true ∧ ((sz : Int) == 0) = true ∧ (d == 0) = false))) ∨
        ((∀ W, Calls Tryz.prog 13 #[.agg #[.string r, .slice a1 ar.length c1, .int .i64 lf, .int .i64 sz, .bool bd, .int .i64 nd, .int .i64 d]] W fun e w' => e = .returned (.bool true) ∧ Below W.heap.size W w') ∧ r.toList.isEmpty = true ∧ ((sz : Int) == 0) = true ∧ (d == 0) = true)) := Lib.hid (by
      rcases hway with ⟨hx, hd, rfl, rfl⟩ | ⟨h1, rfl⟩ | ⟨h1, h2, rfl⟩ | ⟨hx, rfl, rfl, rfl⟩
      · simp only [MI.none, MI.mk.injEq] at hx
        obtain ⟨rfl, rfl, rfl, rfl, rfl, rfl⟩ := hx
        exact Or.inl ⟨fun W => idle_dead d W (beq_eq_false_iff_ne.2 hd), Or.inr (Or.inr ⟨by simp, rfl, beq_eq_false_iff_ne.2 hd⟩)⟩
      · exact Or.inl ⟨fun W => idle_rest r _ lf sz nd bd 0 W h1, Or.inl h1⟩
      · simp only at h1 h2
        subst h1
        exact Or.inl ⟨fun W => idle_size _ a1 _ c1 lf sz nd bd 0 W (by simp) h2, Or.inr (Or.inl ⟨by simp, beq_eq_false_iff_ne.2 (by omega)⟩)⟩
      · simp only [MI.none, MI.mk.injEq] at hx
        obtain ⟨rfl, rfl, rfl, rfl, rfl, rfl⟩ := hx
        exact Or.inr ⟨fun W => idle_yes W, by simp, rfl, rfl⟩)
    clear hs8 hr8 hs9 hr9 hx5H hfewq hqlH hE6 hway
    have hB6 : Hid (∀ W, Below w6.heap.size w6 W → Below w.heap.size w W) := Lib.hid fun W hb => onB hW6H.out hb
    clear hW6H
    have hK0 := Lib.hid (hheld.out _ (Below.drew (Below.refl w6.heap.size w6)))
    have hOn : Hid (∀ a c, Below a.heap.size a c → (a.cell? ⟨g, 0, none⟩ = some (.string r) ∧ a.cell? ⟨g, 1, none⟩ = some (.slice a1 ar.length c1) ∧ a.cell? ⟨g, 2, none⟩ = some (.int .i64 (lf : Int)) ∧ a.cell? ⟨g, 3, none⟩ = some (.int .i64 (sz : Int)) ∧ a.cell? ⟨g, 4, none⟩ = some (.bool bd) ∧ a.cell? ⟨g, 5, none⟩ = some (.int .i64 (nd : Int)) ∧ a.cell? ⟨g, 6, none⟩ = some (.int .i64 d) ∧ a.cell? ⟨h, 0, none⟩ = some (.string r) ∧ a.cell? ⟨h, 1, none⟩ = some (.slice a2 ar.length c2) ∧ a.cell? ⟨h, 2, none⟩ = some (.int .i64 (lf : Int)) ∧ a.cell? ⟨h, 3, none⟩ = some (.int .i64 (sz : Int)) ∧ a.cell? ⟨h, 4, none⟩ = some (.bool bd) ∧ a.cell? ⟨h, 5, none⟩ = some (.int .i64 (nd : Int)) ∧ a.cell? ⟨h, 6, none⟩ = some (.int .i64 d) ∧ a.cell? ⟨w.heap.size, 0, none⟩ = some (.int .i64 la) ∧ a.cell? ⟨w.heap.size, 1, none⟩ = some (.int .i64 lb) ∧ a.cell? ⟨w.heap.size, 2, none⟩ = some (.int .i64 ll) ∧ Below w6.heap.size w6 a) → (c.cell? ⟨g, 0, none⟩ = some (.string r) ∧ c.cell? ⟨g, 1, none⟩ = some (.slice a1 ar.length c1) ∧ c.cell? ⟨g, 2, none⟩ = some (.int .i64 (lf : Int)) ∧ c.cell? ⟨g, 3, none⟩ = some (.int .i64 (sz : Int)) ∧ c.cell? ⟨g, 4, none⟩ = some (.bool bd) ∧ c.cell? ⟨g, 5, none⟩ = some (.int .i64 (nd : Int)) ∧ c.cell? ⟨g, 6, none⟩ = some (.int .i64 d) ∧ c.cell? ⟨h, 0, none⟩ = some (.string r) ∧ c.cell? ⟨h, 1, none⟩ = some (.slice a2 ar.length c2) ∧ c.cell? ⟨h, 2, none⟩ = some (.int .i64 (lf : Int)) ∧ c.cell? ⟨h, 3, none⟩ = some (.int .i64 (sz : Int)) ∧ c.cell? ⟨h, 4, none⟩ = some (.bool bd) ∧ c.cell? ⟨h, 5, none⟩ = some (.int .i64 (nd : Int)) ∧ c.cell? ⟨h, 6, none⟩ = some (.int .i64 d) ∧ c.cell? ⟨w.heap.size, 0, none⟩ = some (.int .i64 la) ∧ c.cell? ⟨w.heap.size, 1, none⟩ = some (.int .i64 lb) ∧ c.cell? ⟨w.heap.size, 2, none⟩ = some (.int .i64 ll) ∧ Below w6.heap.size w6 c)) := Lib.hid fun a c k h => hheld.out _ (onB (last18 h) k)
    have hOD : Hid (∀ a n, (a.cell? ⟨g, 0, none⟩ = some (.string r) ∧ a.cell? ⟨g, 1, none⟩ = some (.slice a1 ar.length c1) ∧ a.cell? ⟨g, 2, none⟩ = some (.int .i64 (lf : Int)) ∧ a.cell? ⟨g, 3, none⟩ = some (.int .i64 (sz : Int)) ∧ a.cell? ⟨g, 4, none⟩ = some (.bool bd) ∧ a.cell? ⟨g, 5, none⟩ = some (.int .i64 (nd : Int)) ∧ a.cell? ⟨g, 6, none⟩ = some (.int .i64 d) ∧ a.cell? ⟨h, 0, none⟩ = some (.string r) ∧ a.cell? ⟨h, 1, none⟩ = some (.slice a2 ar.length c2) ∧ a.cell? ⟨h, 2, none⟩ = some (.int .i64 (lf : Int)) ∧ a.cell? ⟨h, 3, none⟩ = some (.int .i64 (sz : Int)) ∧ a.cell? ⟨h, 4, none⟩ = some (.bool bd) ∧ a.cell? ⟨h, 5, none⟩ = some (.int .i64 (nd : Int)) ∧ a.cell? ⟨h, 6, none⟩ = some (.int .i64 d) ∧ a.cell? ⟨w.heap.size, 0, none⟩ = some (.int .i64 la) ∧ a.cell? ⟨w.heap.size, 1, none⟩ = some (.int .i64 lb) ∧ a.cell? ⟨w.heap.size, 2, none⟩ = some (.int .i64 ll) ∧ Below w6.heap.size w6 a) → ((a.drewN n).cell? ⟨g, 0, none⟩ = some (.string r) ∧ (a.drewN n).cell? ⟨g, 1, none⟩ = some (.slice a1 ar.length c1) ∧ (a.drewN n).cell? ⟨g, 2, none⟩ = some (.int .i64 (lf : Int)) ∧ (a.drewN n).cell? ⟨g, 3, none⟩ = some (.int .i64 (sz : Int)) ∧ (a.drewN n).cell? ⟨g, 4, none⟩ = some (.bool bd) ∧ (a.drewN n).cell? ⟨g, 5, none⟩ = some (.int .i64 (nd : Int)) ∧ (a.drewN n).cell? ⟨g, 6, none⟩ = some (.int .i64 d) ∧ (a.drewN n).cell? ⟨h, 0, none⟩ = some (.string r) ∧ (a.drewN n).cell? ⟨h, 1, none⟩ = some (.slice a2 ar.length c2) ∧ (a.drewN n).cell? ⟨h, 2, none⟩ = some (.int .i64 (lf : Int)) ∧ (a.drewN n).cell? ⟨h, 3, none⟩ = some (.int .i64 (sz : Int)) ∧ (a.drewN n).cell? ⟨h, 4, none⟩ = some (.bool bd) ∧ (a.drewN n).cell? ⟨h, 5, none⟩ = some (.int .i64 (nd : Int)) ∧ (a.drewN n).cell? ⟨h, 6, none⟩ = some (.int .i64 d) ∧ (a.drewN n).cell? ⟨w.heap.size, 0, none⟩ = some (.int .i64 la) ∧ (a.drewN n).cell? ⟨w.heap.size, 1, none⟩ = some (.int .i64 lb) ∧ (a.drewN n).cell? ⟨w.heap.size, 2, none⟩ = some (.int .i64 ll) ∧ Below w6.heap.size w6 (a.drewN n))) := Lib.hid fun a n h => hheld.out _ (below_drewN (last18 h) n)
    have hOA : Hid (∀ a o, (a.cell? ⟨g, 0, none⟩ = some (.string r) ∧ a.cell? ⟨g, 1, none⟩ = some (.slice a1 ar.length c1) ∧ a.cell? ⟨g, 2, none⟩ = some (.int .i64 (lf : Int)) ∧ a.cell? ⟨g, 3, none⟩ = some (.int .i64 (sz : Int)) ∧ a.cell? ⟨g, 4, none⟩ = some (.bool bd) ∧ a.cell? ⟨g, 5, none⟩ = some (.int .i64 (nd : Int)) ∧ a.cell? ⟨g, 6, none⟩ = some (.int .i64 d) ∧ a.cell? ⟨h, 0, none⟩ = some (.string r) ∧ a.cell? ⟨h, 1, none⟩ = some (.slice a2 ar.length c2) ∧ a.cell? ⟨h, 2, none⟩ = some (.int .i64 (lf : Int)) ∧ a.cell? ⟨h, 3, none⟩ = some (.int .i64 (sz : Int)) ∧ a.cell? ⟨h, 4, none⟩ = some (.bool bd) ∧ a.cell? ⟨h, 5, none⟩ = some (.int .i64 (nd : Int)) ∧ a.cell? ⟨h, 6, none⟩ = some (.int .i64 d) ∧ a.cell? ⟨w.heap.size, 0, none⟩ = some (.int .i64 la) ∧ a.cell? ⟨w.heap.size, 1, none⟩ = some (.int .i64 lb) ∧ a.cell? ⟨w.heap.size, 2, none⟩ = some (.int .i64 ll) ∧ Below w6.heap.size w6 a) → ((a.alloc o).cell? ⟨g, 0, none⟩ = some (.string r) ∧ (a.alloc o).cell? ⟨g, 1, none⟩ = some (.slice a1 ar.length c1) ∧ (a.alloc o).cell? ⟨g, 2, none⟩ = some (.int .i64 (lf : Int)) ∧ (a.alloc o).cell? ⟨g, 3, none⟩ = some (.int .i64 (sz : Int)) ∧ (a.alloc o).cell? ⟨g, 4, none⟩ = some (.bool bd) ∧ (a.alloc o).cell? ⟨g, 5, none⟩ = some (.int .i64 (nd : Int)) ∧ (a.alloc o).cell? ⟨g, 6, none⟩ = some (.int .i64 d) ∧ (a.alloc o).cell? ⟨h, 0, none⟩ = some (.string r) ∧ (a.alloc o).cell? ⟨h, 1, none⟩ = some (.slice a2 ar.length c2) ∧ (a.alloc o).cell? ⟨h, 2, none⟩ = some (.int .i64 (lf : Int)) ∧ (a.alloc o).cell? ⟨h, 3, none⟩ = some (.int .i64 (sz : Int)) ∧ (a.alloc o).cell? ⟨h, 4, none⟩ = some (.bool bd) ∧ (a.alloc o).cell? ⟨h, 5, none⟩ = some (.int .i64 (nd : Int)) ∧ (a.alloc o).cell? ⟨h, 6, none⟩ = some (.int .i64 d) ∧ (a.alloc o).cell? ⟨w.heap.size, 0, none⟩ = some (.int .i64 la) ∧ (a.alloc o).cell? ⟨w.heap.size, 1, none⟩ = some (.int .i64 lb) ∧ (a.alloc o).cell? ⟨w.heap.size, 2, none⟩ = some (.int .i64 ll) ∧ Below w6.heap.size w6 (a.alloc o))) := Lib.hid fun a o h => hheld.out _ ((last18 h).alloc (last18 h).size o)
    have hOB : Hid (∀ a, (a.cell? ⟨g, 0, none⟩ = some (.string r) ∧ a.cell? ⟨g, 1, none⟩ = some (.slice a1 ar.length c1) ∧ a.cell? ⟨g, 2, none⟩ = some (.int .i64 (lf : Int)) ∧ a.cell? ⟨g, 3, none⟩ = some (.int .i64 (sz : Int)) ∧ a.cell? ⟨g, 4, none⟩ = some (.bool bd) ∧ a.cell? ⟨g, 5, none⟩ = some (.int .i64 (nd : Int)) ∧ a.cell? ⟨g, 6, none⟩ = some (.int .i64 d) ∧ a.cell? ⟨h, 0, none⟩ = some (.string r) ∧ a.cell? ⟨h, 1, none⟩ = some (.slice a2 ar.length c2) ∧ a.cell? ⟨h, 2, none⟩ = some (.int .i64 (lf : Int)) ∧ a.cell? ⟨h, 3, none⟩ = some (.int .i64 (sz : Int)) ∧ a.cell? ⟨h, 4, none⟩ = some (.bool bd) ∧ a.cell? ⟨h, 5, none⟩ = some (.int .i64 (nd : Int)) ∧ a.cell? ⟨h, 6, none⟩ = some (.int .i64 d) ∧ a.cell? ⟨w.heap.size, 0, none⟩ = some (.int .i64 la) ∧ a.cell? ⟨w.heap.size, 1, none⟩ = some (.int .i64 lb) ∧ a.cell? ⟨w.heap.size, 2, none⟩ = some (.int .i64 ll) ∧ Below w6.heap.size w6 a) → Below w6.heap.size w6 a) := Lib.hid fun a h => last18 h
    have hdd : (d == d) = true := beq_self_eq_true d
    have hId2 := hId.out
    clear hId hheld
    rcases hId2 with ⟨hI, h1 | ⟨h1, h2⟩ | ⟨h1, h2, h3⟩⟩ | ⟨hI, h1, h2, h3⟩
    all_goals (have hIH := Lib.hid hI; clear hI)
    · have g1 : (r.toList == (⟨#[]⟩ : ByteArray).toList) = false := by rw [show (⟨#[]⟩ : ByteArray).toList = [] by simp [Lib.toList_data]]; simpa using h1
      have g2 : (r.toList == []) = false := by simpa using h1
      have g3 : ¬ r.toList = [] := by simpa using h1
      first
      | go_region_held3 (fun w' => w'.cell? ⟨g, 0, none⟩ = some (.string r) ∧ w'.cell? ⟨g, 1, none⟩ = some (.slice a1 ar.length c1) ∧ w'.cell? ⟨g, 2, none⟩ = some (.int .i64 (lf : Int)) ∧ w'.cell? ⟨g, 3, none⟩ = some (.int .i64 (sz : Int)) ∧ w'.cell? ⟨g, 4, none⟩ = some (.bool bd) ∧ w'.cell? ⟨g, 5, none⟩ = some (.int .i64 (nd : Int)) ∧ w'.cell? ⟨g, 6, none⟩ = some (.int .i64 d) ∧ w'.cell? ⟨h, 0, none⟩ = some (.string r) ∧ w'.cell? ⟨h, 1, none⟩ = some (.slice a2 ar.length c2) ∧ w'.cell? ⟨h, 2, none⟩ = some (.int .i64 (lf : Int)) ∧ w'.cell? ⟨h, 3, none⟩ = some (.int .i64 (sz : Int)) ∧ w'.cell? ⟨h, 4, none⟩ = some (.bool bd) ∧ w'.cell? ⟨h, 5, none⟩ = some (.int .i64 (nd : Int)) ∧ w'.cell? ⟨h, 6, none⟩ = some (.int .i64 d) ∧ w'.cell? ⟨w.heap.size, 0, none⟩ = some (.int .i64 la) ∧ w'.cell? ⟨w.heap.size, 1, none⟩ = some (.int .i64 lb) ∧ w'.cell? ⟨w.heap.size, 2, none⟩ = some (.int .i64 ll) ∧ Below w6.heap.size w6 w')
        (first | exact hK0.out | exact hOn.out _ _ (by assumption) (by assumption) | exact hOA.out _ _ (by assumption) | exact hOD.out _ _ (by assumption) | assumption | (refine ⟨?_, ?_, ?_, ?_, ?_, ?_, ?_, ?_, ?_, ?_, ?_, ?_, ?_, ?_, ?_, ?_, ?_, ?_⟩ <;> assumption))
        (first
        | (go_at_call 9; ((with_reducible refine (hSI.out _ (hOB.out _ (by assumption))).mono ?_); rintro e u1 ⟨rfl, b1⟩))
        | (go_at_call 10; ((with_reducible refine (hSm.out _ (hOB.out _ (by assumption))).mono ?_); rintro e u2 ⟨rfl, n2, rfl⟩))
        | (go_at_call 11; ((with_reducible refine (limits_any la lb ll _).mono ?_); rintro e u3 ⟨rfl, b3⟩))
        | (go_at_call 12; ((with_reducible refine (rlimits_any la lb ll _).mono ?_); rintro e u4 ⟨rfl, b4⟩))
        | (go_at_call 13; ((with_reducible refine (hIH.out _).mono ?_); rintro e u5 ⟨rfl, b5⟩))
        | (go_at_call 6; ((with_reducible refine (hAv.out _ (hOB.out _ (by assumption))).mono ?_); rintro e u6 ⟨rfl, b6⟩)))
      | fail
      go_wp2_with fail
      go_ret
      exact ⟨rfl, hB6.out _ (hOB.out _ (by assumption))⟩
    · have g1 : (r.toList == (⟨#[]⟩ : ByteArray).toList) = true := by rw [show (⟨#[]⟩ : ByteArray).toList = [] by simp [Lib.toList_data]]; simpa using h1
      have g2 : (r.toList == []) = true := by simpa using h1
      first
      | go_region_held3 (fun w' => w'.cell? ⟨g, 0, none⟩ = some (.string r) ∧ w'.cell? ⟨g, 1, none⟩ = some (.slice a1 ar.length c1) ∧ w'.cell? ⟨g, 2, none⟩ = some (.int .i64 (lf : Int)) ∧ w'.cell? ⟨g, 3, none⟩ = some (.int .i64 (sz : Int)) ∧ w'.cell? ⟨g, 4, none⟩ = some (.bool bd) ∧ w'.cell? ⟨g, 5, none⟩ = some (.int .i64 (nd : Int)) ∧ w'.cell? ⟨g, 6, none⟩ = some (.int .i64 d) ∧ w'.cell? ⟨h, 0, none⟩ = some (.string r) ∧ w'.cell? ⟨h, 1, none⟩ = some (.slice a2 ar.length c2) ∧ w'.cell? ⟨h, 2, none⟩ = some (.int .i64 (lf : Int)) ∧ w'.cell? ⟨h, 3, none⟩ = some (.int .i64 (sz : Int)) ∧ w'.cell? ⟨h, 4, none⟩ = some (.bool bd) ∧ w'.cell? ⟨h, 5, none⟩ = some (.int .i64 (nd : Int)) ∧ w'.cell? ⟨h, 6, none⟩ = some (.int .i64 d) ∧ w'.cell? ⟨w.heap.size, 0, none⟩ = some (.int .i64 la) ∧ w'.cell? ⟨w.heap.size, 1, none⟩ = some (.int .i64 lb) ∧ w'.cell? ⟨w.heap.size, 2, none⟩ = some (.int .i64 ll) ∧ Below w6.heap.size w6 w')
        (first | exact hK0.out | exact hOn.out _ _ (by assumption) (by assumption) | exact hOA.out _ _ (by assumption) | exact hOD.out _ _ (by assumption) | assumption | (refine ⟨?_, ?_, ?_, ?_, ?_, ?_, ?_, ?_, ?_, ?_, ?_, ?_, ?_, ?_, ?_, ?_, ?_, ?_⟩ <;> assumption))
        (first
        | (go_at_call 9; ((with_reducible refine (hSI.out _ (hOB.out _ (by assumption))).mono ?_); rintro e u1 ⟨rfl, b1⟩))
        | (go_at_call 10; ((with_reducible refine (hSm.out _ (hOB.out _ (by assumption))).mono ?_); rintro e u2 ⟨rfl, n2, rfl⟩))
        | (go_at_call 11; ((with_reducible refine (limits_any la lb ll _).mono ?_); rintro e u3 ⟨rfl, b3⟩))
        | (go_at_call 12; ((with_reducible refine (rlimits_any la lb ll _).mono ?_); rintro e u4 ⟨rfl, b4⟩))
        | (go_at_call 13; ((with_reducible refine (hIH.out _).mono ?_); rintro e u5 ⟨rfl, b5⟩))
        | (go_at_call 6; ((with_reducible refine (hAv.out _ (hOB.out _ (by assumption))).mono ?_); rintro e u6 ⟨rfl, b6⟩)))
      | fail
      go_wp2_with fail
      go_ret
      exact ⟨rfl, hB6.out _ (hOB.out _ (by assumption))⟩
    · have g1 : (r.toList == (⟨#[]⟩ : ByteArray).toList) = true := by rw [show (⟨#[]⟩ : ByteArray).toList = [] by simp [Lib.toList_data]]; simpa using h1
      have g2 : (r.toList == []) = true := by simpa using h1
      first
      | go_region_held3 (fun w' => w'.cell? ⟨g, 0, none⟩ = some (.string r) ∧ w'.cell? ⟨g, 1, none⟩ = some (.slice a1 ar.length c1) ∧ w'.cell? ⟨g, 2, none⟩ = some (.int .i64 (lf : Int)) ∧ w'.cell? ⟨g, 3, none⟩ = some (.int .i64 (sz : Int)) ∧ w'.cell? ⟨g, 4, none⟩ = some (.bool bd) ∧ w'.cell? ⟨g, 5, none⟩ = some (.int .i64 (nd : Int)) ∧ w'.cell? ⟨g, 6, none⟩ = some (.int .i64 d) ∧ w'.cell? ⟨h, 0, none⟩ = some (.string r) ∧ w'.cell? ⟨h, 1, none⟩ = some (.slice a2 ar.length c2) ∧ w'.cell? ⟨h, 2, none⟩ = some (.int .i64 (lf : Int)) ∧ w'.cell? ⟨h, 3, none⟩ = some (.int .i64 (sz : Int)) ∧ w'.cell? ⟨h, 4, none⟩ = some (.bool bd) ∧ w'.cell? ⟨h, 5, none⟩ = some (.int .i64 (nd : Int)) ∧ w'.cell? ⟨h, 6, none⟩ = some (.int .i64 d) ∧ w'.cell? ⟨w.heap.size, 0, none⟩ = some (.int .i64 la) ∧ w'.cell? ⟨w.heap.size, 1, none⟩ = some (.int .i64 lb) ∧ w'.cell? ⟨w.heap.size, 2, none⟩ = some (.int .i64 ll) ∧ Below w6.heap.size w6 w')
        (first | exact hK0.out | exact hOn.out _ _ (by assumption) (by assumption) | exact hOA.out _ _ (by assumption) | exact hOD.out _ _ (by assumption) | assumption | (refine ⟨?_, ?_, ?_, ?_, ?_, ?_, ?_, ?_, ?_, ?_, ?_, ?_, ?_, ?_, ?_, ?_, ?_, ?_⟩ <;> assumption))
        (first
        | (go_at_call 9; ((with_reducible refine (hSI.out _ (hOB.out _ (by assumption))).mono ?_); rintro e u1 ⟨rfl, b1⟩))
        | (go_at_call 10; ((with_reducible refine (hSm.out _ (hOB.out _ (by assumption))).mono ?_); rintro e u2 ⟨rfl, n2, rfl⟩))
        | (go_at_call 11; ((with_reducible refine (limits_any la lb ll _).mono ?_); rintro e u3 ⟨rfl, b3⟩))
        | (go_at_call 12; ((with_reducible refine (rlimits_any la lb ll _).mono ?_); rintro e u4 ⟨rfl, b4⟩))
        | (go_at_call 13; ((with_reducible refine (hIH.out _).mono ?_); rintro e u5 ⟨rfl, b5⟩))
        | (go_at_call 6; ((with_reducible refine (hAv.out _ (hOB.out _ (by assumption))).mono ?_); rintro e u6 ⟨rfl, b6⟩)))
      | fail
      go_wp2_with fail
      go_ret
      exact ⟨rfl, hB6.out _ (hOB.out _ (by assumption))⟩
    · have g1 : (r.toList == (⟨#[]⟩ : ByteArray).toList) = true := by rw [show (⟨#[]⟩ : ByteArray).toList = [] by simp [Lib.toList_data]]; simpa using h1
      have g2 : (r.toList == []) = true := by simpa using h1
      first
      | go_region_held3 (fun w' => w'.cell? ⟨g, 0, none⟩ = some (.string r) ∧ w'.cell? ⟨g, 1, none⟩ = some (.slice a1 ar.length c1) ∧ w'.cell? ⟨g, 2, none⟩ = some (.int .i64 (lf : Int)) ∧ w'.cell? ⟨g, 3, none⟩ = some (.int .i64 (sz : Int)) ∧ w'.cell? ⟨g, 4, none⟩ = some (.bool bd) ∧ w'.cell? ⟨g, 5, none⟩ = some (.int .i64 (nd : Int)) ∧ w'.cell? ⟨g, 6, none⟩ = some (.int .i64 d) ∧ w'.cell? ⟨h, 0, none⟩ = some (.string r) ∧ w'.cell? ⟨h, 1, none⟩ = some (.slice a2 ar.length c2) ∧ w'.cell? ⟨h, 2, none⟩ = some (.int .i64 (lf : Int)) ∧ w'.cell? ⟨h, 3, none⟩ = some (.int .i64 (sz : Int)) ∧ w'.cell? ⟨h, 4, none⟩ = some (.bool bd) ∧ w'.cell? ⟨h, 5, none⟩ = some (.int .i64 (nd : Int)) ∧ w'.cell? ⟨h, 6, none⟩ = some (.int .i64 d) ∧ w'.cell? ⟨w.heap.size, 0, none⟩ = some (.int .i64 la) ∧ w'.cell? ⟨w.heap.size, 1, none⟩ = some (.int .i64 lb) ∧ w'.cell? ⟨w.heap.size, 2, none⟩ = some (.int .i64 ll) ∧ Below w6.heap.size w6 w')
        (first | exact hK0.out | exact hOn.out _ _ (by assumption) (by assumption) | exact hOA.out _ _ (by assumption) | exact hOD.out _ _ (by assumption) | assumption | (refine ⟨?_, ?_, ?_, ?_, ?_, ?_, ?_, ?_, ?_, ?_, ?_, ?_, ?_, ?_, ?_, ?_, ?_, ?_⟩ <;> assumption))
        (first
        | (go_at_call 9; ((with_reducible refine (hSI.out _ (hOB.out _ (by assumption))).mono ?_); rintro e u1 ⟨rfl, b1⟩))
        | (go_at_call 10; ((with_reducible refine (hSm.out _ (hOB.out _ (by assumption))).mono ?_); rintro e u2 ⟨rfl, n2, rfl⟩))
        | (go_at_call 11; ((with_reducible refine (limits_any la lb ll _).mono ?_); rintro e u3 ⟨rfl, b3⟩))
        | (go_at_call 12; ((with_reducible refine (rlimits_any la lb ll _).mono ?_); rintro e u4 ⟨rfl, b4⟩))
        | (go_at_call 13; ((with_reducible refine (hIH.out _).mono ?_); rintro e u5 ⟨rfl, b5⟩))
        | (go_at_call 6; ((with_reducible refine (hAv.out _ (hOB.out _ (by assumption))).mono ?_); rintro e u6 ⟨rfl, b6⟩)))
      | fail
      go_wp2_with fail
      go_ret
      exact ⟨rfl, hB6.out _ (hOB.out _ (by assumption))⟩
end Go.Proofs.YtjcicbkjngpcoaaGreatDoor
