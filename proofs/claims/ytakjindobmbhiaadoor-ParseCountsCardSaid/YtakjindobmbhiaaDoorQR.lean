/-
  The walk of the law of pieces. A premise: the library's variable ErrSyntax holds an error, or none.
-/
import Derived.Test.YtakjindobmbhiaaDoorQO
import Derived.Test.YtakjindobmbhiaaDoorQQ
namespace Go.Proofs.YtakjindobmbhiaaDoor
open Go.RowKit Dec Pq S4

theorem tot_size {ss : List ByteArray} (h : tot1 ss ≤ 5000) : (ss.map (·.size)).sum = tot1 ss := by
  induction ss with
  | nil => rfl
  | cons a l ih =>
    simp only [tot1, List.map_cons, List.sum_cons] at h ih ⊢
    have := ih (by omega)
    omega
def cat (ss : List ByteArray) (k : Nat) : ByteArray := (ss.take k).foldl (· ++ ·) ⟨#[]⟩
theorem cat_next {ss : List ByteArray} {k : Nat} {x : ByteArray} (h : ss[k]? = some x) : cat ss (k + 1) = cat ss k ++ x := by
  unfold cat
  rw [List.take_add_one, h]
  simp [List.foldl_append]
theorem cat_size (ss : List ByteArray) (k : Nat) : (cat ss k).size ≤ (ss.map (·.size)).sum := by
  have key : ∀ (l : List ByteArray) (b : ByteArray), (l.foldl (· ++ ·) b).size = b.size + (l.map (·.size)).sum := by
    intro l
    induction l with
    | nil => intro b; simp
    | cons a l ih => intro b; rw [List.foldl_cons, ih]; simp; omega
  unfold cat
  rw [key]
  have e : (ss.map (·.size)).sum = ((ss.take k).map (·.size)).sum + ((ss.drop k).map (·.size)).sum := by
    conv => lhs; rw [← List.take_append_drop k ss]
    rw [List.map_append, List.sum_append]
  rw [e]
  have e0 : (⟨#[]⟩ : ByteArray).size = 0 := rfl
  rw [e0]
  omega
section
variable {A B L : Nat}
theorem step_live {r s : ByteArray} {y : Inp} {Q : List Rq} (h : feedF A B L (Inp.none r.data.toList) = (.inr y, Q)) : feedF A B L (Inp.none (r ++ s).data.toList) = ((feedF A B L (y.add s.data.toList)).1, Q ++ (feedF A B L (y.add s.data.toList)).2) := by
  have := (feed_add (A := A) (B := B) (L := L) s.data.toList (r.data.toList.length + 1) (Inp.none r.data.toList) (by simp [Inp.none])).2 y (by rw [h])
  rw [h] at this
  have e : (Inp.none r.data.toList).add s.data.toList = Inp.none (r ++ s).data.toList := by simp [Inp.none, Inp.add]
  rwa [e] at this
theorem step_deadF {r s : ByteArray} {k : Int} {Q : List Rq} (h : feedF A B L (Inp.none r.data.toList) = (.inl k, Q)) : feedF A B L (Inp.none (r ++ s).data.toList) = (.inl k, Q) := by
  have := (feed_add (A := A) (B := B) (L := L) s.data.toList (r.data.toList.length + 1) (Inp.none r.data.toList) (by simp [Inp.none])).1 k (by rw [h])
  rw [h] at this
  have e : (Inp.none r.data.toList).add s.data.toList = Inp.none (r ++ s).data.toList := by simp [Inp.none, Inp.add]
  rwa [e] at this
end
/-- How Feed's answer is spelled. -/
theorem fe_form {w w' : World} {A n : Nat} {R : Sum Int Inp × List Rq} {e : Ending} (h : FeedEnd w A n R e w') : ∃ (r : ByteArray) (a : Option Addr) (m c l s : Nat) (b : Bool) (nd : Nat) (d : Int) (Aq : Option Addr) (q : List MR) (cq : Nat),
    e = .returned (.tuple #[.agg #[.string r, .slice a m c, .int .i64 l, .int .i64 s, .bool b, .int .i64 nd, .int .i64 d], .slice Aq q.length cq, .int .i64 d]) ∧ Below w.heap.size w w' ∧ q.map rq = R.2 ∧ (q = [] → Aq = none → cq = 0) ∧ Rqs w' (fun b => w.heap.size ≤ b) Aq q ∧ q.length ≤ n ∧
    ((d ≠ 0 ∧ R.1 = .inl d ∧ r = ⟨#[]⟩ ∧ a = none ∧ m = 0 ∧ c = 0 ∧ l = 0 ∧ s = 0 ∧ b = false ∧ nd = 0) ∨
     (d = 0 ∧ ∃ my : MI, r = my.rest ∧ m = my.args.length ∧ l = my.left ∧ s = my.size ∧ b = my.body ∧ nd = my.need ∧ R.1 = .inr my.inp ∧ MI.Ok A my ∧ q.length + my.size + my.rest.size ≤ n ∧ (my.args = [] → a = none ∧ c = 0) ∧ SOk w' (fun b => w.heap.size ≤ b) a my.args)) := by
  obtain ⟨hb, q, Aq, cq, hq, hn, hr, hl, hR⟩ := h
  cases hR1 : R.1 with
  | inl k =>
    rw [hR1] at hR
    obtain ⟨hk, he⟩ := hR
    exact ⟨⟨#[]⟩, none, 0, 0, 0, 0, false, 0, k, Aq, q, cq, he, hb, hq, hn, hr, hl, Or.inl ⟨hk, rfl, rfl, rfl, rfl, rfl, rfl, rfl, rfl, rfl⟩⟩
  | inr y =>
    rw [hR1] at hR
    obtain ⟨my, a, c, hmy, hok, hsz, hnil, hs, he⟩ := hR
    exact ⟨my.rest, a, my.args.length, c, my.left, my.size, my.body, my.need, 0, Aq, q, cq, he, hb, hq, hn, hr, hl, Or.inr ⟨rfl, my, rfl, rfl, rfl, rfl, rfl, rfl, by rw [hmy], hok, hsz, hnil, hs⟩⟩
/-- The Input between two pieces, and what it is. -/
def Live (wr : World) (g A B L : Nat) (r : ByteArray) (q : List MR) (y : MI) (a : Option Addr) (c : Nat) : Prop :=
  wr.heap[g]? = some (.cells #[.string y.rest, .slice a y.args.length c, .int .i64 y.left, .int .i64 y.size, .bool y.body, .int .i64 y.need, .int .i64 0] 29 (0, 0)) ∧ (y.args = [] → a = none ∧ c = 0) ∧ SOk wr (fun b => g < b) a y.args ∧ y.Ok A ∧ q.length + y.size + y.rest.size ≤ r.size ∧ feedF A B L (Inp.none r.data.toList) = (.inr y.inp, q.map rq)
def DeadAt (wr : World) (g A B L : Nat) (r : ByteArray) (q : List MR) (k : Int) : Prop :=
  (k != 0) = true ∧ wr.heap[g]? = some (.cells #[.string ⟨#[]⟩, .slice none 0 0, .int .i64 0, .int .i64 0, .bool false, .int .i64 0, .int .i64 k] 29 (0, 0)) ∧ feedF A B L (Inp.none r.data.toList) = (.inl k, q.map rq)
def St (wr : World) (g A B L : Nat) (r : ByteArray) (q : List MR) : Prop := (∃ y a c, Live wr g A B L r q y a c) ∨ ∃ k, DeadAt wr g A B L r q k
theorem feed_deadE (b : ByteArray) (la lb ll d : Int) (w : World) (hd : (d != 0) = true) :
    Calls Tryd.prog 11 #[.agg #[.string ⟨#[]⟩, .slice none 0 0, .int .i64 0, .int .i64 0, .bool false, .int .i64 0, .int .i64 d], .string b, .agg #[.int .i64 la, .int .i64 lb, .int .i64 ll]] w fun e w' =>
      ∃ (r : ByteArray) (a : Option Addr) (m c l s : Nat) (b : Bool) (nd : Nat), e = .returned (.tuple #[.agg #[.string r, .slice a m c, .int .i64 l, .int .i64 s, .bool b, .int .i64 nd, .int .i64 d], .slice none 0 0, .int .i64 d]) ∧ Below w.heap.size w w' ∧ r = ⟨#[]⟩ ∧ a = none ∧ m = 0 ∧ c = 0 ∧ l = 0 ∧ s = 0 ∧ b = false ∧ nd = 0 :=
  (feed_deadI b la lb ll d w hd).mono fun _ _ ⟨h1, h2⟩ => ⟨⟨#[]⟩, none, 0, 0, 0, 0, false, 0, h1, h2, rfl, rfl, rfl, rfl, rfl, rfl, rfl, rfl⟩
theorem rqs_nil (W : World) (ok : Nat → Prop) : Rqs W ok none [] := fun i p h => by simp at h
theorem none_add (b : ByteArray) : (MI.none ⟨#[]⟩).inp.add b.data.toList = Inp.none b.data.toList := by
  simp [MI.none, MI.inp, Inp.add, Inp.none, txt]
theorem few_all {A B L : Nat} {r : List UInt8} {R : Sum Int Inp} {q : List MR} (h : feedF A B L (Inp.none r) = (R, q.map rq)) (hA : A ≤ 65536) : ∀ p ∈ q, p.1.length ≤ 1000000 := by
  intro p hp
  have := feed_few (A := A) (B := B) (L := L) (r.length + 1) (Inp.none r) (by simp [Inp.none]) (fun h => absurd rfl h) (rq p) (by rw [h]; exact List.mem_map_of_mem hp)
  have h2 := this.2
  simp [rq, txt] at h2
  omega
theorem fe_live {w w' : World} {A n : Nat} {y : MI} {q : List MR} {e : Ending} (h : FeedEnd w A n (.inr y.inp, q.map rq) e w') : ∃ (a : Option Addr) (c : Nat) (Aq : Option Addr) (cq : Nat),
    e = .returned (.tuple #[.agg #[.string y.rest, .slice a y.args.length c, .int .i64 y.left, .int .i64 y.size, .bool y.body, .int .i64 y.need, .int .i64 0], .slice Aq q.length cq, .int .i64 0]) ∧ Below w.heap.size w w' ∧ SOk w' Tr a y.args ∧ Rqs w' Tr Aq q := by
  obtain ⟨hb, q', Aq, cq, hq, _, hr, _, my, a, c, hmy, _, _, _, hs, he⟩ := h
  obtain rfl := mi_inj hmy
  obtain rfl := rqs_inj hq
  exact ⟨a, c, Aq, cq, he, hb, hs.free, hr.keep (fun _ _ _ => rfl) (Nat.le_refl _) (fun _ _ _ => trivial)⟩
theorem fe_dead {w w' : World} {A n : Nat} {k : Int} {q : List MR} {e : Ending} (h : FeedEnd w A n (.inl k, q.map rq) e w') : ∃ (Aq : Option Addr) (cq : Nat),
    e = .returned (.tuple #[.agg #[.string ⟨#[]⟩, .slice none 0 0, .int .i64 0, .int .i64 0, .bool false, .int .i64 0, .int .i64 k], .slice Aq q.length cq, .int .i64 k]) ∧ Below w.heap.size w w' ∧ Rqs w' Tr Aq q := by
  obtain ⟨hb, q', Aq, cq, hq, _, hr, _, _, he⟩ := h
  obtain rfl := rqs_inj hq
  exact ⟨Aq, cq, he, hb, hr.keep (fun _ _ _ => rfl) (Nat.le_refl _) (fun _ _ _ => trivial)⟩
set_option maxRecDepth 100000 in
set_option maxHeartbeats 8000000 in
theorem pieces_any (A0 : Option Addr) (c0 : Nat) (ss : List ByteArray) (la lb ll : Int) (w : World) (hr : SOk w Tr A0 ss) (hl : ss.length ≤ 140737488355328) (hE : ErrAt w) :
    Calls Tryd.prog 3 #[.slice A0 ss.length c0, .agg #[.int .i64 la, .int .i64 lb, .int .i64 ll]] w fun e w' => e = .returned (.bool true) ∧ Below w.heap.size w w' := by
  have n1 := heap_alloc_new w (.cells #[.int .i64 la, .int .i64 lb, .int .i64 ll] 24)
  have hb1 := (Below.refl w.heap.size w).alloc (Nat.le_refl _) (.cells #[.int .i64 la, .int .i64 lb, .int .i64 ll] 24)
  have hs1 : (w.alloc (.cells #[.int .i64 la, .int .i64 lb, .int .i64 ll] 24)).heap.size = w.heap.size + 1 := by simp
  obtain ⟨A, hA⟩ : ∃ A : Nat, betw la 1 65536 = (A : Int) := ⟨(betw la 1 65536).toNat, by unfold betw; omega⟩
  obtain ⟨B, hB⟩ : ∃ B : Nat, betw lb 1 1048576 = (B : Int) := ⟨(betw lb 1 1048576).toNat, by unfold betw; omega⟩
  obtain ⟨L, hL⟩ : ∃ L : Nat, betw ll 1 65536 = (L : Int) := ⟨(betw ll 1 65536).toNat, by unfold betw; omega⟩
  have hA2 : A ≤ 65536 := by unfold betw at hA; omega
  have hB2 : B ≤ 1048576 := by unfold betw at hB; omega
  have hL2 : L ≤ 65536 := by unfold betw at hL; omega
  have hAH := Lib.hid hA
  have hBH := Lib.hid hB
  have hLH := Lib.hid hL
  clear hA hB hL
  have hrH := Lib.hid (hr.on hb1)
  have hEH := Lib.hid (hE.on hb1)
  have hb1H := Lib.hid hb1
  clear hr hE hb1
  cases hF : farL ss with
  | true =>
    have hFH := Lib.hid hF
    go_enter Tryd.func3, Tryd.ntmps3
    go_wp2_with (first
      | (go_at_call 9; ((with_reducible refine (far_any A0 c0 ss _ hrH.out hl true hFH).mono ?_); rintro e w' ⟨rfl, rfl⟩))
      | (go_at_call 10; ((with_reducible refine (alive_any _ hEH.out).mono ?_); rintro e w' ⟨rfl, hb2⟩)))
    go_ret
    exact ⟨rfl, onB hb1H.out hb2⟩
  | false =>
    have hFH := Lib.hid hF
    have hT : tot1 ss ≤ 5000 ∧ ss.length ≤ 100 := by
      unfold farL at hF
      simp at hF
      omega
    obtain ⟨hT1, hT2⟩ := hT
    have hcz : ∀ k, (cat ss k).size ≤ 5000 := fun k => Nat.le_trans (cat_size ss k) (by rw [tot_size hT1]; exact hT1)
    have hczH := Lib.hid hcz
    clear hF hcz
    go_enter Tryd.func3, Tryd.ntmps3
    go_upto_region 7 with (go_at_call 9; ((with_reducible refine (far_any A0 c0 ss _ hrH.out hl false hFH).mono ?_); rintro e w' ⟨rfl, rfl⟩))
    generalize hw0 : w.alloc (.cells #[.int .i64 la, .int .i64 lb, .int .i64 ll] 24) = w0 at n1 hs1 hrH hEH hb1H ⊢
    have n2 := heap_alloc_new w0 (.cells #[.string ⟨#[]⟩, .slice none 0 0, .int .i64 0, .int .i64 0, .bool false, .int .i64 0, .int .i64 0] 29)
    rw [hs1] at n2
    have hH0 : Held w0 (w.heap.size + 1) (.slice none 0 0) (.slice none 0 0) [] [] (w0.alloc (.cells #[.string ⟨#[]⟩, .slice none 0 0, .int .i64 0, .int .i64 0, .bool false, .int .i64 0, .int .i64 0] 29)) := Held.start w0 _ _ ((Below.refl _ _).alloc (Nat.le_refl _) _) (by simp [hs1]) (by omega)
    have hS0 : St (w0.alloc (.cells #[.string ⟨#[]⟩, .slice none 0 0, .int .i64 0, .int .i64 0, .bool false, .int .i64 0, .int .i64 0] 29)) (w.heap.size + 1) A B L (cat ss 0) [] := Or.inl ⟨MI.none ⟨#[]⟩, none, 0, n2, fun _ => ⟨rfl, rfl⟩, fun i x hx => by simp [MI.none] at hx, none_ok _, Nat.zero_le _, by show feedF A B L (Inp.none []) = _; exact feed_stop rfl⟩
    have hH0H := Lib.hid hH0
    have hS0H := Lib.hid hS0
    have n1H := Lib.hid n1
    clear n1 n2 hH0 hS0 hw0
    go_loopw [6, 7, 22] (fun t6 t7 t22 wr => ∃ (k : Nat) (q : List MR), t22 = .int .i64 k ∧ k ≤ ss.length ∧ t6 = .string (cat ss k) ∧ Hid (Held w0 (w.heap.size + 1) (.slice none 0 0) t7 [] q wr) ∧ q.length ≤ 5000 ∧ Hid (St wr (w.heap.size + 1) A B L (cat ss k) q)) (fun _ _ i _ => ss.length - (intOf i).toNat)
    case atStart => exact ⟨0, [], rfl, by omega, rfl, hH0H, by simp, hS0H⟩
    case round =>
      clear hH0H hS0H
      obtain ⟨k, q, rfl, hk, rfl, hH, hq5, hS⟩ := hrel
      have hbel := hH.out.bel
      have hgl := hH.out.lt
      have hcz := hczH.out k
      obtain ⟨l0, l1, l2⟩ := lim_facts ((hbel.block w.heap.size (by omega)).trans n1H.out)
      have hEw := Lib.hid (hEH.out.on hbel)
      by_cases hlt : k < ss.length
      · obtain ⟨x, hx⟩ : ∃ x, ss[k]? = some x := ⟨_, List.getElem?_eq_getElem hlt⟩
        obtain ⟨ad, rfl, _, hadl, hcell0⟩ := hrH.out k x hx
        have hcell : wr.cell? (ad.add k) = some (.string x) := (hbel.cell (p := ad.add k) (by rw [block_of_add]; exact hadl)).trans hcell0
        have hcn := cat_next hx
        have hcz1 := hczH.out (k + 1)
        have hcs : (cat ss (k + 1)).size = (cat ss k).size + x.size := by rw [hcn]; simp
        have hcnH := Lib.hid hcn
        have hbz := hbel.size
        clear hx hcell0 hcn
        rcases hS.out with ⟨y, a, c, hh, hnil, hsok, hyok, hyn, hyF⟩ | ⟨d, hd, hh, hdF⟩
        · have hcall := Lib.hid (feed_any y a c x la lb ll A B L wr hAH hBH hLH hA2 hB2 hL2 hyok (by omega) ⟨hnil, hsok.free⟩ hEw.out hEw.out)
          obtain ⟨i0, i1, i2, i3, i4, i5, i6, j0, j1, j2, j3, j4, j5, j6⟩ := in_facts hh
          have hstepF := Lib.hid (step_live (s := x) hyF)
          have hhH := Lib.hid hh
          clear hh hyF hS hsok hyok hnil
          go_upto_region 10 with (go_at_call 11; ((with_reducible refine hcall.out.mono ?_); rintro e w2 hfe; obtain ⟨r9, a9, m9, c9, l9, s9, b9, nd9, d9, Aq, q9, cq, rfl, hb2, hq9, hn9, hr9, hl9, hD⟩ := fe_form hfe; have hDH := Lib.hid hD; have hq9H := Lib.hid hq9; have hr9H := Lib.hid hr9; have hn9H := Lib.hid hn9; clear hfe hD hq9 hr9 hn9))
          have hHr := hH.out
          obtain ⟨_, kr, _⟩ := hHr.whole
          have hvlt := Lib.hid kr.lt
          have hba : Below w2.heap.size w2 (w2.alloc (.cells #[.string r9, .slice a9 m9 c9, .int .i64 l9, .int .i64 s9, .bool b9, .int .i64 nd9, .int .i64 d9] 29)) := (Below.refl _ _).alloc (Nat.le_refl _) _
          have hH2 := Lib.hid ((hHr.on hb2).on hba)
          have hr2 := Lib.hid (hr9H.out.on hba)
          have hn2 := heap_alloc_new w2 (.cells #[.string r9, .slice a9 m9 c9, .int .i64 l9, .int .i64 s9, .bool b9, .int .i64 nd9, .int .i64 d9] 29)
          have hg2 := (Lib.alloc_old w2 (.cells #[.string r9, .slice a9 m9 c9, .int .i64 l9, .int .i64 s9, .bool b9, .int .i64 nd9, .int .i64 d9] 29) (w.heap.size + 1) (Nat.lt_of_lt_of_le hgl hb2.size)).trans ((hb2.block (w.heap.size + 1) hgl).trans hhH.out)
          have hgw : w.heap.size + 1 < w2.heap.size := Nat.lt_of_lt_of_le hgl hb2.size
          have hs2 : w2.heap.size < (w2.alloc (.cells #[.string r9, .slice a9 m9 c9, .int .i64 l9, .int .i64 s9, .bool b9, .int .i64 nd9, .int .i64 d9] 29)).heap.size := by simp
          have hbs := hb2.size
          have hlive := Lib.hid (fun my (h : SOk w2 (fun b => wr.heap.size ≤ b) a9 my) => SOk.on h hba)
          clear hb2 hba l0 l1 l2 hcell i0 i1 i2 i3 i4 i5 i6 j0 j1 j2 j3 j4 j5 j6 kr hHr
          generalize w2.alloc (.cells #[.string r9, .slice a9 m9 c9, .int .i64 l9, .int .i64 s9, .bool b9, .int .i64 nd9, .int .i64 d9] 29) = W2 at hH2 hr2 hn2 hg2 hs2 hlive ⊢
          generalize hgn : w2.heap.size = gn at hn2 hs2 hgw ⊢
          obtain ⟨i0, i1, i2, i3, i4, i5, i6, j0, j1, j2, j3, j4, j5, j6⟩ := in_facts hg2
          obtain ⟨p0, p1, p2, p3, p4, p5, p6, x0, x1', x2, x3, x4, x5, x6⟩ := in_facts hn2
          obtain ⟨css, k1, k2, k3, k4⟩ := hH2.out.whole
          have k1H := Lib.hid k1
          have k4H := Lib.hid k4
          have hbB := hH2.out.bel.size
          have hn2H := Lib.hid hn2
          have hg2H := Lib.hid hg2
          clear k1 k4 hn2 hg2
          go_wp2_with (at_builtin; refine wpList_rqs (by rfl) (.tmp 54) (.tmp 55) rfl rfl rfl k1H.out hr2.out hn9H.out (by omega) hbB ?_)
          intro v' w' css2 hown' hgr hat hC
          have hH3 := hH2.out.more k2 k3 k4H.out k1H.out.lt (fun b hb hl => ⟨by have := hbz; omega, by omega, fun e => by have := (hvlt.out b e).2; omega⟩) (by first | exact hown' | (rw [hs1]; exact hown')) hgr hat hC
          have hg3 := (hgr.block (w.heap.size + 1) (Nat.lt_trans hgw hs2) (fun e => hH2.out.gv e.symm)).trans hg2H.out
          have hn3 := (hgr.block gn hs2 (fun e => by have := (hvlt.out gn e.symm).2; omega)).trans hn2H.out
          have hso3 : ∀ my, SOk W2 (fun b => wr.heap.size ≤ b) a9 my → SOk w' (fun b => wr.heap.size ≤ b) a9 my := fun my h => h.keep (fun b hb hl => hgr.block b hl (fun e => by have := (hvlt.out b e.symm).2; omega)) hgr.size (fun _ h _ => h)
          have hH3H := Lib.hid hH3
          have hso3H := Lib.hid hso3
          have hg3H := Lib.hid hg3
          clear hown' hgr hat hC hH3 hso3 i0 i1 i2 i3 i4 i5 i6 j0 j1 j2 j3 j4 j5 j6 p0 p1 p2 p3 p4 p5 p6 x0 x1' x2 x3 x4 x5 x6
          obtain ⟨i0, i1, i2, i3, i4, i5, i6, j0, j1, j2, j3, j4, j5, j6⟩ := in_facts hg3
          obtain ⟨p0, p1, p2, p3, p4, p5, p6, x0, x1', x2, x3, x4, x5, x6⟩ := in_facts hn3
          clear hg3 hn3
          go_wp2_with fail
          obtain ⟨o1, o2, o3, o4⟩ := store7 hg3H.out (.string r9) (.slice a9 m9 c9) (.int .i64 l9) (.int .i64 s9) (.bool b9) (.int .i64 nd9) (.int .i64 d9)
          have hH4 := Lib.hid (((((((hH3H.out.poke 0 (.string r9)).poke 1 (.slice a9 m9 c9)).poke 2 (.int .i64 l9)).poke 3 (.int .i64 s9)).poke 4 (.bool b9)).poke 5 (.int .i64 nd9)).poke 6 (.int .i64 d9))
          have hso4 := Lib.hid (fun my (h : SOk w' (fun b => wr.heap.size ≤ b) a9 my) => h.keep (ok' := fun b => w.heap.size + 1 < b) (fun b hb _ => o2 b (by omega)) (Nat.le_of_eq o3.symm) (fun b hb _ => by omega))
          clear o2 o3 o4 i0 i1 i2 i3 i4 i5 i6 j0 j1 j2 j3 j4 j5 j6 p0 p1 p2 p3 p4 p5 p6 x0 x1' x2 x3 x4 x5 x6
          have hSt : St (((((((w'.setCell ⟨w.heap.size + 1, 0, none⟩ (.string r9)).setCell ⟨w.heap.size + 1, 1, none⟩ (.slice a9 m9 c9)).setCell ⟨w.heap.size + 1, 2, none⟩ (.int .i64 l9)).setCell ⟨w.heap.size + 1, 3, none⟩ (.int .i64 s9)).setCell ⟨w.heap.size + 1, 4, none⟩ (.bool b9)).setCell ⟨w.heap.size + 1, 5, none⟩ (.int .i64 nd9)).setCell ⟨w.heap.size + 1, 6, none⟩ (.int .i64 d9)) (w.heap.size + 1) A B L (cat ss (k + 1)) (q ++ q9) := by
            rw [hcnH.out]
            rcases hDH.out with ⟨hd0, hR1, rfl, rfl, rfl, rfl, rfl, rfl, rfl, rfl⟩ | ⟨rfl, my, rfl, rfl, rfl, rfl, rfl, rfl, hR1, hmok, hmn, hmnil, hmso⟩
            · exact Or.inr ⟨d9, bne_iff_ne.2 hd0, o1, by rw [hstepF.out, hR1, List.map_append, hq9H.out]⟩
            · exact Or.inl ⟨my, a9, c9, o1, hmnil, hso4.out _ (hso3H.out _ (hlive.out _ hmso)), hmok, by rw [List.length_append, ← hcnH.out]; omega, by rw [hstepF.out, hR1, List.map_append, hq9H.out]⟩
          have hStH := Lib.hid hSt
          clear hSt o1
          generalize (((((((w'.setCell ⟨w.heap.size + 1, 0, none⟩ (.string r9)).setCell ⟨w.heap.size + 1, 1, none⟩ (.slice a9 m9 c9)).setCell ⟨w.heap.size + 1, 2, none⟩ (.int .i64 l9)).setCell ⟨w.heap.size + 1, 3, none⟩ (.int .i64 s9)).setCell ⟨w.heap.size + 1, 4, none⟩ (.bool b9)).setCell ⟨w.heap.size + 1, 5, none⟩ (.int .i64 nd9)).setCell ⟨w.heap.size + 1, 6, none⟩ (.int .i64 d9)) = w5 at hH4 hStH ⊢
          have hlq : (q ++ q9).length ≤ 5000 := by rw [List.length_append]; omega
          go_roundw
          case rel => exact ⟨k + 1, q ++ q9, by go_num, by omega, by rw [hcnH.out], hH4, hlq, hStH⟩
          case measure => simp [intOf]; omega
        · have hcall := Lib.hid (feed_deadE x la lb ll d wr hd)
          obtain ⟨i0, i1, i2, i3, i4, i5, i6, j0, j1, j2, j3, j4, j5, j6⟩ := in_facts hh
          have hdFH := Lib.hid hdF
          have hhH := Lib.hid hh
          clear hh hdF hS
          go_upto_region 10 with (go_at_call 11; ((with_reducible refine hcall.out.mono ?_); rintro e w2 ⟨r9, a9, m9, c9, l9, s9, b9, nd9, rfl, hb2, hD⟩; have hDH := Lib.hid hD; clear hD))
          have hHr := hH.out
          obtain ⟨_, kr, _⟩ := hHr.whole
          have hvlt := Lib.hid kr.lt
          have hba : Below w2.heap.size w2 (w2.alloc (.cells #[.string r9, .slice a9 m9 c9, .int .i64 l9, .int .i64 s9, .bool b9, .int .i64 nd9, .int .i64 d] 29)) := (Below.refl _ _).alloc (Nat.le_refl _) _
          have hH2 := Lib.hid ((hHr.on hb2).on hba)
          have hr2 := Lib.hid (rqs_nil (w2.alloc (.cells #[.string r9, .slice a9 m9 c9, .int .i64 l9, .int .i64 s9, .bool b9, .int .i64 nd9, .int .i64 d] 29)) (fun b => wr.heap.size ≤ b))
          have hn2 := heap_alloc_new w2 (.cells #[.string r9, .slice a9 m9 c9, .int .i64 l9, .int .i64 s9, .bool b9, .int .i64 nd9, .int .i64 d] 29)
          have hg2 := (Lib.alloc_old w2 (.cells #[.string r9, .slice a9 m9 c9, .int .i64 l9, .int .i64 s9, .bool b9, .int .i64 nd9, .int .i64 d] 29) (w.heap.size + 1) (Nat.lt_of_lt_of_le hgl hb2.size)).trans ((hb2.block (w.heap.size + 1) hgl).trans hhH.out)
          have hgw : w.heap.size + 1 < w2.heap.size := Nat.lt_of_lt_of_le hgl hb2.size
          have hs2 : w2.heap.size < (w2.alloc (.cells #[.string r9, .slice a9 m9 c9, .int .i64 l9, .int .i64 s9, .bool b9, .int .i64 nd9, .int .i64 d] 29)).heap.size := by simp
          have hbs := hb2.size
          have hlive := Lib.hid (fun my (h : SOk w2 (fun b => wr.heap.size ≤ b) a9 my) => SOk.on h hba)
          clear hb2 hba l0 l1 l2 hcell i0 i1 i2 i3 i4 i5 i6 j0 j1 j2 j3 j4 j5 j6 kr hHr
          generalize w2.alloc (.cells #[.string r9, .slice a9 m9 c9, .int .i64 l9, .int .i64 s9, .bool b9, .int .i64 nd9, .int .i64 d] 29) = W2 at hH2 hr2 hn2 hg2 hs2 hlive ⊢
          generalize hgn : w2.heap.size = gn at hn2 hs2 hgw ⊢
          obtain ⟨i0, i1, i2, i3, i4, i5, i6, j0, j1, j2, j3, j4, j5, j6⟩ := in_facts hg2
          obtain ⟨p0, p1, p2, p3, p4, p5, p6, x0, x1', x2, x3, x4, x5, x6⟩ := in_facts hn2
          obtain ⟨css, k1, k2, k3, k4⟩ := hH2.out.whole
          have k1H := Lib.hid k1
          have k4H := Lib.hid k4
          have hbB := hH2.out.bel.size
          have hn2H := Lib.hid hn2
          have hg2H := Lib.hid hg2
          clear k1 k4 hn2 hg2
          go_wp2_with (at_builtin; refine wpList_rqs (by rfl) (.tmp 54) (.tmp 55) rfl rfl rfl k1H.out hr2.out (fun _ _ => rfl) (by simp; omega) hbB ?_)
          intro v' w' css2 hown' hgr hat hC
          have hH3 := hH2.out.more k2 k3 k4H.out k1H.out.lt (fun b hb hl => ⟨by have := hbz; omega, by omega, fun e => by have := (hvlt.out b e).2; omega⟩) (by first | exact hown' | (rw [hs1]; exact hown')) hgr hat hC
          have hg3 := (hgr.block (w.heap.size + 1) (Nat.lt_trans hgw hs2) (fun e => hH2.out.gv e.symm)).trans hg2H.out
          have hn3 := (hgr.block gn hs2 (fun e => by have := (hvlt.out gn e.symm).2; omega)).trans hn2H.out
          have hso3 : ∀ my, SOk W2 (fun b => wr.heap.size ≤ b) a9 my → SOk w' (fun b => wr.heap.size ≤ b) a9 my := fun my h => h.keep (fun b hb hl => hgr.block b hl (fun e => by have := (hvlt.out b e.symm).2; omega)) hgr.size (fun _ h _ => h)
          have hH3H := Lib.hid hH3
          have hso3H := Lib.hid hso3
          have hg3H := Lib.hid hg3
          clear hown' hgr hat hC hH3 hso3 i0 i1 i2 i3 i4 i5 i6 j0 j1 j2 j3 j4 j5 j6 p0 p1 p2 p3 p4 p5 p6 x0 x1' x2 x3 x4 x5 x6
          obtain ⟨i0, i1, i2, i3, i4, i5, i6, j0, j1, j2, j3, j4, j5, j6⟩ := in_facts hg3
          obtain ⟨p0, p1, p2, p3, p4, p5, p6, x0, x1', x2, x3, x4, x5, x6⟩ := in_facts hn3
          clear hg3 hn3
          go_wp2_with fail
          obtain ⟨o1, o2, o3, o4⟩ := store7 hg3H.out (.string r9) (.slice a9 m9 c9) (.int .i64 l9) (.int .i64 s9) (.bool b9) (.int .i64 nd9) (.int .i64 d)
          have hH4 := Lib.hid (((((((hH3H.out.poke 0 (.string r9)).poke 1 (.slice a9 m9 c9)).poke 2 (.int .i64 l9)).poke 3 (.int .i64 s9)).poke 4 (.bool b9)).poke 5 (.int .i64 nd9)).poke 6 (.int .i64 d))
          have hso4 := Lib.hid (fun my (h : SOk w' (fun b => wr.heap.size ≤ b) a9 my) => h.keep (ok' := fun b => w.heap.size + 1 < b) (fun b hb _ => o2 b (by omega)) (Nat.le_of_eq o3.symm) (fun b hb _ => by omega))
          clear o2 o3 o4 i0 i1 i2 i3 i4 i5 i6 j0 j1 j2 j3 j4 j5 j6 p0 p1 p2 p3 p4 p5 p6 x0 x1' x2 x3 x4 x5 x6
          have hSt : St (((((((w'.setCell ⟨w.heap.size + 1, 0, none⟩ (.string r9)).setCell ⟨w.heap.size + 1, 1, none⟩ (.slice a9 m9 c9)).setCell ⟨w.heap.size + 1, 2, none⟩ (.int .i64 l9)).setCell ⟨w.heap.size + 1, 3, none⟩ (.int .i64 s9)).setCell ⟨w.heap.size + 1, 4, none⟩ (.bool b9)).setCell ⟨w.heap.size + 1, 5, none⟩ (.int .i64 nd9)).setCell ⟨w.heap.size + 1, 6, none⟩ (.int .i64 d)) (w.heap.size + 1) A B L (cat ss (k + 1)) (q ++ []) := by
            obtain ⟨rfl, rfl, rfl, rfl, rfl, rfl, rfl, rfl⟩ := hDH.out
            rw [hcnH.out, List.append_nil]
            exact Or.inr ⟨d, hd, o1, step_deadF hdFH.out⟩
          have hStH := Lib.hid hSt
          clear hSt o1
          generalize (((((((w'.setCell ⟨w.heap.size + 1, 0, none⟩ (.string r9)).setCell ⟨w.heap.size + 1, 1, none⟩ (.slice a9 m9 c9)).setCell ⟨w.heap.size + 1, 2, none⟩ (.int .i64 l9)).setCell ⟨w.heap.size + 1, 3, none⟩ (.int .i64 s9)).setCell ⟨w.heap.size + 1, 4, none⟩ (.bool b9)).setCell ⟨w.heap.size + 1, 5, none⟩ (.int .i64 nd9)).setCell ⟨w.heap.size + 1, 6, none⟩ (.int .i64 d)) = w5 at hH4 hStH ⊢
          have hlq : (q ++ []).length ≤ 5000 := by simp; omega
          go_roundw
          case rel => exact ⟨k + 1, q ++ [], by go_num, by omega, by rw [hcnH.out], hH4, hlq, hStH⟩
          case measure => simp [intOf]; omega
      · obtain rfl : k = ss.length := by omega
        rcases hS.out with ⟨y, a, c, hh, hnil, hsok, hyok, hyn, hyF⟩ | ⟨d, hd, hh, hdF⟩
        · skip
          have hfew := Lib.hid (few_all hyF hA2)
          have hcall := Lib.hid (show Calls Tryd.prog 11 #[.agg #[.string ⟨#[]⟩, .slice none 0 0, .int .i64 0, .int .i64 0, .bool false, .int .i64 0, .int .i64 0], .string (cat ss ss.length), .agg #[.int .i64 la, .int .i64 lb, .int .i64 ll]] wr (FeedEnd wr A ((MI.none ⟨#[]⟩).size + (MI.none ⟨#[]⟩).rest.size + (cat ss ss.length).size) (feedF A B L ((MI.none ⟨#[]⟩).inp.add (cat ss ss.length).data.toList))) from feed_any (MI.none ⟨#[]⟩) none 0 (cat ss ss.length) la lb ll A B L wr hAH hBH hLH hA2 hB2 hL2 (none_ok _) (by show 0 + 0 + (cat ss ss.length).size ≤ 1000000; omega) ⟨fun _ => ⟨rfl, rfl⟩, fun i x hx => by simp [MI.none] at hx⟩ hEw.out hEw.out)
          rw [none_add, hyF] at hcall
          obtain ⟨Ag, cg, rfl, _, hgr⟩ := hH.out.rqs
          have hgrH := Lib.hid hgr
          have hhH := Lib.hid hh
          have hsoH := Lib.hid hsok.free
          have hyl : y.args.length ≤ 1000000 := by
            by_cases h : y.left = 0
            · rw [(hyok.1 h).1]; simp
            · have := hyok.2 h; omega
          clear hgr hh hyF hS hsok hnil hyok
          have hwl : Below w.heap.size w wr := (hb1H.out.trans (hbel.mono (by omega)))
          have hwlH := Lib.hid hwl
          clear hwl hbel hH
          go_upto_region 17 with (go_at_call 11; ((with_reducible refine hcall.out.mono ?_); rintro e w2 hfe; obtain ⟨a9, c9, Aq, cq, rfl, hb2, hs9, hr9⟩ := fe_live hfe; clear hfe))
          have hba : Below w2.heap.size w2 (w2.alloc (.cells #[.string y.rest, .slice a9 y.args.length c9, .int .i64 y.left, .int .i64 y.size, .bool y.body, .int .i64 y.need, .int .i64 0] 29)) := (Below.refl _ _).alloc (Nat.le_refl _) _
          have hn2 := heap_alloc_new w2 (.cells #[.string y.rest, .slice a9 y.args.length c9, .int .i64 y.left, .int .i64 y.size, .bool y.body, .int .i64 y.need, .int .i64 0] 29)
          have hg2 := (Lib.alloc_old w2 (.cells #[.string y.rest, .slice a9 y.args.length c9, .int .i64 y.left, .int .i64 y.size, .bool y.body, .int .i64 y.need, .int .i64 0] 29) (w.heap.size + 1) (Nat.lt_of_lt_of_le hgl hb2.size)).trans ((hb2.block (w.heap.size + 1) hgl).trans hhH.out)
          have hbW := Lib.hid (onB hwlH.out (onB hb2 hba))
          have hgr2 := Lib.hid ((hgrH.out.on (onB hb2 hba)).keep (ok' := Tr) (fun _ _ _ => rfl) (Nat.le_refl _) (fun _ _ _ => trivial))
          have hr2 := Lib.hid (hr9.on hba)
          have hE2 := Lib.hid (hEw.out.on (onB hb2 hba))
          have hs2 := Lib.hid (hs9.on hba)
          have hin2 := Lib.hid (hsoH.out.on (onB hb2 hba))
          clear hb2 hba hr9 hs9 l0 l1 l2
          generalize w2.alloc (.cells #[.string y.rest, .slice a9 y.args.length c9, .int .i64 y.left, .int .i64 y.size, .bool y.body, .int .i64 y.need, .int .i64 0] 29) = W2 at hn2 hg2 hbW hgr2 hr2 hE2 hs2 hin2 ⊢
          generalize w2.heap.size = gn at hn2 ⊢
          obtain ⟨i0, i1, i2, i3, i4, i5, i6, j0, j1, j2, j3, j4, j5, j6⟩ := in_facts hg2
          obtain ⟨p0, p1, p2, p3, p4, p5, p6, x0, x1', x2, x3, x4, x5, x6⟩ := in_facts hn2
          have hSI := Lib.hid (show Calls Tryd.prog 12 #[.agg #[.string y.rest, .slice a y.args.length c, .int .i64 y.left, .int .i64 y.size, .bool y.body, .int .i64 y.need, .int .i64 0], .agg #[.string y.rest, .slice a9 y.args.length c9, .int .i64 y.left, .int .i64 y.size, .bool y.body, .int .i64 y.need, .int .i64 0]] W2 fun e w' => e = .returned (.bool true) ∧ Below W2.heap.size W2 w' from rinput_any y.rest a a9 c c9 y.args y.left y.size y.need y.body 0 W2 hyl hin2.out hs2.out)
          have hSm := Lib.hid (fun W (hb : Below W2.heap.size W2 W) => rsame_any Ag Aq cg cq q W (by omega) (hgr2.out.on hb) (hr2.out.on hb) hfew.out)
          clear hn2 hg2
          go_wp2_with (first
            | (go_at_call 12; ((with_reducible refine hSI.out.mono ?_); rintro e w3 ⟨rfl, hb3⟩))
            | (go_at_call 13; ((with_reducible refine (hSm.out _ hb3).mono ?_); rintro e w4 ⟨rfl, n4, hw4⟩; have hb4 : Below W2.heap.size W2 w4 := (by rw [hw4]; exact below_drewN hb3 n4); clear hw4))
            | (go_at_call 10; ((with_reducible refine (alive_any _ (hE2.out.on hb4)).mono ?_); rintro e w5 ⟨rfl, hb5⟩)))
          go_ret
          exact ⟨rfl, onB (onB hbW.out hb4) hb5⟩
        · skip
          have hfew := Lib.hid (few_all hdF hA2)
          have hcall := Lib.hid (show Calls Tryd.prog 11 #[.agg #[.string ⟨#[]⟩, .slice none 0 0, .int .i64 0, .int .i64 0, .bool false, .int .i64 0, .int .i64 0], .string (cat ss ss.length), .agg #[.int .i64 la, .int .i64 lb, .int .i64 ll]] wr (FeedEnd wr A ((MI.none ⟨#[]⟩).size + (MI.none ⟨#[]⟩).rest.size + (cat ss ss.length).size) (feedF A B L ((MI.none ⟨#[]⟩).inp.add (cat ss ss.length).data.toList))) from feed_any (MI.none ⟨#[]⟩) none 0 (cat ss ss.length) la lb ll A B L wr hAH hBH hLH hA2 hB2 hL2 (none_ok _) (by show 0 + 0 + (cat ss ss.length).size ≤ 1000000; omega) ⟨fun _ => ⟨rfl, rfl⟩, fun i x hx => by simp [MI.none] at hx⟩ hEw.out hEw.out)
          rw [none_add, hdF] at hcall
          obtain ⟨Ag, cg, rfl, _, hgr⟩ := hH.out.rqs
          have hgrH := Lib.hid hgr
          have hhH := Lib.hid hh
          clear hgr hh hdF hS 
          have hwl : Below w.heap.size w wr := (hb1H.out.trans (hbel.mono (by omega)))
          have hwlH := Lib.hid hwl
          clear hwl hbel hH
          go_upto_region 17 with (go_at_call 11; ((with_reducible refine hcall.out.mono ?_); rintro e w2 hfe; obtain ⟨Aq, cq, rfl, hb2, hr9⟩ := fe_dead hfe; clear hfe))
          have hba : Below w2.heap.size w2 (w2.alloc (.cells #[.string ⟨#[]⟩, .slice none 0 0, .int .i64 0, .int .i64 0, .bool false, .int .i64 0, .int .i64 d] 29)) := (Below.refl _ _).alloc (Nat.le_refl _) _
          have hn2 := heap_alloc_new w2 (.cells #[.string ⟨#[]⟩, .slice none 0 0, .int .i64 0, .int .i64 0, .bool false, .int .i64 0, .int .i64 d] 29)
          have hg2 := (Lib.alloc_old w2 (.cells #[.string ⟨#[]⟩, .slice none 0 0, .int .i64 0, .int .i64 0, .bool false, .int .i64 0, .int .i64 d] 29) (w.heap.size + 1) (Nat.lt_of_lt_of_le hgl hb2.size)).trans ((hb2.block (w.heap.size + 1) hgl).trans hhH.out)
          have hbW := Lib.hid (onB hwlH.out (onB hb2 hba))
          have hgr2 := Lib.hid ((hgrH.out.on (onB hb2 hba)).keep (ok' := Tr) (fun _ _ _ => rfl) (Nat.le_refl _) (fun _ _ _ => trivial))
          have hr2 := Lib.hid (hr9.on hba)
          have hE2 := Lib.hid (hEw.out.on (onB hb2 hba))
          clear hb2 hba hr9  l0 l1 l2
          generalize w2.alloc (.cells #[.string ⟨#[]⟩, .slice none 0 0, .int .i64 0, .int .i64 0, .bool false, .int .i64 0, .int .i64 d] 29) = W2 at hn2 hg2 hbW hgr2 hr2 hE2 ⊢
          generalize w2.heap.size = gn at hn2 ⊢
          obtain ⟨i0, i1, i2, i3, i4, i5, i6, j0, j1, j2, j3, j4, j5, j6⟩ := in_facts hg2
          obtain ⟨p0, p1, p2, p3, p4, p5, p6, x0, x1', x2, x3, x4, x5, x6⟩ := in_facts hn2
          have hSI := Lib.hid (show Calls Tryd.prog 12 #[.agg #[.string ⟨#[]⟩, .slice none 0 0, .int .i64 0, .int .i64 0, .bool false, .int .i64 0, .int .i64 d], .agg #[.string ⟨#[]⟩, .slice none 0 0, .int .i64 0, .int .i64 0, .bool false, .int .i64 0, .int .i64 d]] W2 fun e w' => e = .returned (.bool true) ∧ Below W2.heap.size W2 w' from rinput_any ⟨#[]⟩ none none 0 0 [] 0 0 0 false d W2 (by simp) (fun i x h => by simp at h) (fun i x h => by simp at h))
          have hSm := Lib.hid (fun W (hb : Below W2.heap.size W2 W) => rsame_any Ag Aq cg cq q W (by omega) (hgr2.out.on hb) (hr2.out.on hb) hfew.out)
          clear hn2 hg2
          go_wp2_with (first
            | (go_at_call 12; ((with_reducible refine hSI.out.mono ?_); rintro e w3 ⟨rfl, hb3⟩))
            | (go_at_call 13; ((with_reducible refine (hSm.out _ hb3).mono ?_); rintro e w4 ⟨rfl, n4, hw4⟩; have hb4 : Below W2.heap.size W2 w4 := (by rw [hw4]; exact below_drewN hb3 n4); clear hw4))
            | (go_at_call 10; ((with_reducible refine (alive_any _ (hE2.out.on hb4)).mono ?_); rintro e w5 ⟨rfl, hb5⟩)))
          go_ret
          exact ⟨rfl, onB (onB hbW.out hb4) hb5⟩
end Go.Proofs.YtakjindobmbhiaaDoor
