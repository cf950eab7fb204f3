/-
  The walk of the law of counts. A premise: the library's variable ErrSyntax holds an error, or none.
-/
import Derived.Test.YtakjindobmbhiaaDoorQS
namespace Go.Proofs.YtakjindobmbhiaaDoor
open Go.RowKit Dec Pq S4

/-- A row of rows of texts that is read. -/
def SSOk (W : World) (A0 : Option Addr) (ls : List (List ByteArray)) : Prop := ∀ i l, ls[i]? = some l → ∃ a A c, A0 = some a ∧ a.block < W.heap.size ∧ W.cell? (a.add i) = some (.slice A l.length c) ∧ SOk W Tr A l ∧ l.length ≤ 140737488355328
theorem SSOk.on {W W' : World} {A0 : Option Addr} {ls : List (List ByteArray)} (h : SSOk W A0 ls) (hb : Below W.heap.size W W') : SSOk W' A0 ls := by
  intro i l hl
  obtain ⟨a, A, c, h1, h2, h3, h4, h5⟩ := h i l hl
  exact ⟨a, A, c, h1, Nat.lt_of_lt_of_le h2 hb.size, (hb.cell (p := a.add i) (by rw [block_of_add]; exact h2)).trans h3, h4.on hb, h5⟩
def putsB (ls : List (List ByteArray)) (k : Nat) : List UInt8 := ((ls.take k).map txt).flatMap putF
def emp (ls : List (List ByteArray)) (k : Nat) : Nat := 4 * (((ls.take k).map txt).filter (·.isEmpty)).length
theorem putsB_next {ls : List (List ByteArray)} {k : Nat} {l : List ByteArray} (h : ls[k]? = some l) : putsB ls (k + 1) = putsB ls k ++ putF (txt l) := by
  unfold putsB
  rw [List.take_add_one, h]
  simp [List.flatMap_append]
theorem emp_next {ls : List (List ByteArray)} {k : Nat} {l : List ByteArray} (h : ls[k]? = some l) : emp ls (k + 1) = emp ls k + (if l.length = 0 then 4 else 0) := by
  unfold emp
  rw [List.take_add_one, h]
  cases l with
  | nil => simp [txt]; omega
  | cons a l => simp [txt]
theorem mem_sum {l : List Nat} {x : Nat} (h : x ∈ l) : x ≤ l.sum := by
  induction l with
  | nil => cases h
  | cons a l ih =>
    rcases List.mem_cons.1 h with rfl | h
    · simp
    · have := ih h
      simp only [List.sum_cons]
      omega
theorem putF_size (ss : List ByteArray) (hn : ss.length ≤ 1000) (hs : sz ss ≤ 100000) : (putF (txt ss)).length ≤ 30 + 30 * ss.length + sz ss := by
  have hd : ∀ n : Nat, n ≤ 9223372036854775807 → (Lib.decDigits n).length ≤ 20 := fun n h => by rw [Lib.decDigits_length]; exact Lib.nDigits_le20 n (by omega)
  have key : ∀ l : List ByteArray, (∀ x ∈ l, x.size ≤ 100000) → ((txt l).flatMap putA).length ≤ 30 * l.length + sz l := by
    intro l
    induction l with
    | nil => intro _; simp [txt, sz]
    | cons a l ih =>
      intro h
      have h1 := ih (fun x hx => h x (by simp [hx]))
      have h2 := h a (by simp)
      have h3 := hd a.size (by omega)
      have e : a.data.toList.length = a.size := size_len a
      simp only [txt, List.map_cons, List.flatMap_cons, List.length_append, putA_len, sz, List.sum_cons, List.length_cons, e] at h1 ⊢
      omega
  have hx : ∀ x ∈ ss, x.size ≤ 100000 := fun x hx => by
    have : x.size ≤ sz ss := by
      unfold sz
      exact mem_sum (List.mem_map_of_mem hx)
    omega
  have h1 := key ss hx
  have h2 := hd (txt ss).length (by simp [txt]; omega)
  simp only [putF, List.length_cons, List.length_append] at h1 ⊢
  omega
theorem fe_inl {w w' : World} {A n : Nat} {R : Sum Int Inp × List Rq} {e : Ending} {k : Int} (h : FeedEnd w A n R e w') (hk : R.1 = .inl k) : ∃ (q : List MR) (Aq : Option Addr) (cq : Nat),
    e = .returned (.tuple #[.agg #[.string ⟨#[]⟩, .slice none 0 0, .int .i64 0, .int .i64 0, .bool false, .int .i64 0, .int .i64 k], .slice Aq q.length cq, .int .i64 k]) ∧ Below w.heap.size w w' ∧ q.map rq = R.2 ∧ (k != 0) = true := by
  obtain ⟨hb, q, Aq, cq, hq, _, hr, _, hR⟩ := h
  rw [hk] at hR
  obtain ⟨hk0, he⟩ := hR
  exact ⟨q, Aq, cq, he, hb, hq, bne_iff_ne.2 hk0⟩
theorem fe_inr {w w' : World} {A n : Nat} {R : Sum Int Inp × List Rq} {e : Ending} (h : FeedEnd w A n R e w') (hk : R.1 = .inr (Inp.none [])) : ∃ (q : List MR) (Aq : Option Addr) (cq : Nat),
    e = .returned (.tuple #[.agg #[.string ⟨#[]⟩, .slice none 0 0, .int .i64 0, .int .i64 0, .bool false, .int .i64 0, .int .i64 0], .slice Aq q.length cq, .int .i64 0]) ∧ Below w.heap.size w w' ∧ q.map rq = R.2 ∧ Rqs w' Tr Aq q ∧ q.length ≤ n := by
  obtain ⟨hb, q, Aq, cq, hq, _, hr, hn, hR⟩ := h
  rw [hk] at hR
  obtain ⟨my, a, c, hmy, _, _, hac, _, he⟩ := hR
  obtain rfl : my = MI.none ⟨#[]⟩ := mi_inj hmy
  obtain ⟨rfl, rfl⟩ := hac rfl
  exact ⟨q, Aq, cq, he, hb, hq, hr.keep (fun _ _ _ => rfl) (Nat.le_refl _) (fun _ _ _ => trivial), hn⟩
def toldM (q : List MR) (k : Nat) : Nat := ((q.take k).map (·.2)).sum
theorem toldM_next {q : List MR} {k : Nat} {p : MR} (h : q[k]? = some p) : toldM q (k + 1) = toldM q k + p.2 := by
  unfold toldM
  rw [List.take_add_one, h]
  simp
theorem toldM_le (q : List MR) (k : Nat) : toldM q k ≤ told (q.map rq) := by
  unfold toldM told
  rw [List.map_map]
  have e : (q.map ((·.2) ∘ rq)) = q.map (·.2) := List.map_congr_left (fun p _ => rfl)
  rw [e, List.map_take]
  conv => rhs; rw [← List.take_append_drop k (q.map (·.2))]
  rw [List.sum_append]
  omega
theorem toldM_all (q : List MR) : toldM q q.length = told (q.map rq) := by
  unfold toldM told
  rw [List.take_length, List.map_map]
  congr 1
theorem drewN_more {w w' w2 : World} (h : ∃ m, w' = w.drewN m) (h2 : ∃ m, w2 = w'.drewN m) : ∃ m, w2 = w.drewN m := by
  obtain ⟨n, rfl⟩ := h2
  exact drewN_trans h n
set_option maxRecDepth 100000 in
set_option maxHeartbeats 8000000 in
theorem counts_any (A0 : Option Addr) (c0 : Nat) (ls : List (List ByteArray)) (la lb ll : Int) (w : World) (hr : SSOk w A0 ls) (hl : ls.length ≤ 140737488355328) (hE : ErrAt w) :
    Calls Tryd.prog 4 #[.slice A0 ls.length c0, .agg #[.int .i64 la, .int .i64 lb, .int .i64 ll]] w fun e w' => e = .returned (.bool true) ∧ Below w.heap.size w w' := by
  have n1 := heap_alloc_new w (.cells #[.int .i64 la, .int .i64 lb, .int .i64 ll] 24)
  have hb1 := (Below.refl w.heap.size w).alloc (Nat.le_refl _) (.cells #[.int .i64 la, .int .i64 lb, .int .i64 ll] 24)
  have hs1 : (w.alloc (.cells #[.int .i64 la, .int .i64 lb, .int .i64 ll] 24)).heap.size = w.heap.size + 1 := by simp
  obtain ⟨A, hA⟩ : ∃ A : Nat, betw la 1 65536 = (A : Int) := ⟨(betw la 1 65536).toNat, by unfold betw; omega⟩
  obtain ⟨B, hB⟩ : ∃ B : Nat, betw lb 1 1048576 = (B : Int) := ⟨(betw lb 1 1048576).toNat, by unfold betw; omega⟩
  obtain ⟨L, hL⟩ : ∃ L : Nat, betw ll 1 65536 = (L : Int) := ⟨(betw ll 1 65536).toNat, by unfold betw; omega⟩
  have hA2 : A ≤ 65536 := by unfold betw at hA; omega
  have hB2 : B ≤ 1048576 := by unfold betw at hB; omega
  have hL2 : L ≤ 65536 := by unfold betw at hL; omega
  have hAH := Lib.hid hA
  have hBH := Lib.hid hB
  have hLH := Lib.hid hL
  clear hA hB hL
  have hrH := Lib.hid (hr.on hb1)
  have hEH := Lib.hid (hE.on hb1)
  have hb1H := Lib.hid hb1
  clear hr hE hb1
  by_cases h30 : 30 < ls.length
  · go_enter Tryd.func4, Tryd.ntmps4
    go_wp2_with (go_at_call 10; ((with_reducible refine (alive_any _ hEH.out).mono ?_); rintro e w' ⟨rfl, hb2⟩))
    go_ret
    exact ⟨rfl, onB hb1H.out hb2⟩
  · have hRL := Lib.hid (fun w => rlimits_any la lb ll w)
    rw [hAH.out, hBH.out, hLH.out] at hRL
    go_enter Tryd.func4, Tryd.ntmps4
    go_upto_region 4 with (go_at_call 14; ((with_reducible refine (hRL.out _).mono ?_); rintro e w2 ⟨rfl, hb2⟩))
    have hn5 := heap_alloc_new w2 (.cells #[.int .i64 (A : Int), .int .i64 (B : Int), .int .i64 (L : Int)] 24)
    have hb5 := onB hb1H.out (hb2.alloc hb2.size (.cells #[.int .i64 (A : Int), .int .i64 (B : Int), .int .i64 (L : Int)] 24))
    have hr5 := Lib.hid (hrH.out.on (hb2.alloc hb2.size (.cells #[.int .i64 (A : Int), .int .i64 (B : Int), .int .i64 (L : Int)] 24)))
    have hE5 := Lib.hid (hEH.out.on (hb2.alloc hb2.size (.cells #[.int .i64 (A : Int), .int .i64 (B : Int), .int .i64 (L : Int)] 24)))
    have hlt5 : w.heap.size < w2.heap.size := by have := hb2.size; omega
    have hn1 := (Lib.alloc_old w2 (.cells #[.int .i64 (A : Int), .int .i64 (B : Int), .int .i64 (L : Int)] 24) w.heap.size hlt5).trans ((hb2.block w.heap.size (by omega)).trans n1)
    have hs5 : w2.heap.size < (w2.alloc (.cells #[.int .i64 (A : Int), .int .i64 (B : Int), .int .i64 (L : Int)] 24)).heap.size := by simp
    clear n1 hs1 hrH hEH hb1H hb2
    generalize w2.alloc (.cells #[.int .i64 (A : Int), .int .i64 (B : Int), .int .i64 (L : Int)] 24) = W at hn5 hb5 hr5 hE5 hn1 hs5 ⊢
    generalize w2.heap.size = g5 at hn5 hs5 hlt5 ⊢
    have hb5H := Lib.hid hb5
    have hn5H := Lib.hid hn5
    have hn1H := Lib.hid hn1
    clear hb5 hn5 hn1
    go_wp2_with fail
    have hWd0 : Hid (∃ m, W = W.drewN m) := Lib.hid ⟨0, rfl⟩
    have hz0 : Hid ((⟨#[]⟩ : ByteArray).data.toList = putsB ls 0) := Lib.hid (by simp [putsB])
    have hl0 : Hid (∀ l ∈ ls.take 0, l.length ≤ 100 ∧ ∀ x ∈ l, x.size ≤ 5000) := Lib.hid (fun l h => by simp at h)
    go_loopw [6, 7, 23] (fun s n i wr => ∃ (k : Nat) (b : ByteArray), i = .int .i64 k ∧ k ≤ ls.length ∧ s = .string b ∧ n = .int .i64 (emp ls k : Nat) ∧ Hid (b.data.toList = putsB ls k) ∧ b.size ≤ 14000 ∧ Hid (∀ l ∈ ls.take k, l.length ≤ 100 ∧ ∀ x ∈ l, x.size ≤ 5000) ∧ Hid (∃ m, wr = W.drewN m)) (fun _ _ i _ => ls.length - (intOf i).toNat)
    case atStart => exact ⟨0, ⟨#[]⟩, rfl, by omega, rfl, by simp [emp], hz0, by decide, hl0, hWd0⟩
    case round =>
      clear hWd0 hz0 hl0
      obtain ⟨k, b, rfl, hk, rfl, rfl, hb, hbz, hle, hWd⟩ := hrel
      have hbW : Below W.heap.size W wr := by obtain ⟨m, hm⟩ := hWd.out; rw [hm]; exact drewN_below W m
      have hbWH := Lib.hid hbW
      by_cases hlt : k < ls.length
      · obtain ⟨l, hx⟩ : ∃ l, ls[k]? = some l := ⟨_, List.getElem?_eq_getElem hlt⟩
        obtain ⟨a, A9, c9, rfl, hal, hc0, hsok0, hll⟩ := hr5.out k l hx
        have hcell : wr.cell? (a.add k) = some (.slice A9 l.length c9) := (hbW.cell (p := a.add k) (by rw [block_of_add]; exact hal)).trans hc0
        have hsok := Lib.hid (hsok0.on hbW)
        have hnx := Lib.hid (putsB_next hx)
        have hen := Lib.hid (emp_next hx)
        have hxH := Lib.hid hx
        have hEw := Lib.hid (hE5.out.on hbW)
        clear hc0 hsok0 hx hbW
        have hbA := Lib.hid (onB hb5H.out hbWH.out)
        cases hF : farL l with
        | true =>
          have hFa := Lib.hid (far_any A9 c9 l wr hsok.out hll true (Lib.hid hF))
          clear hF
          go_wp2_with (first
            | (go_at_call 9; ((with_reducible refine hFa.out.mono ?_); rintro e w3 ⟨rfl, rfl⟩))
            | (go_at_call 10; ((with_reducible refine (alive_any _ hEw.out).mono ?_); rintro e w4 ⟨rfl, hb4⟩)))
          go_ret
          exact ⟨rfl, onB hbA.out hb4⟩
        | false =>
          have hFa := Lib.hid (far_any A9 c9 l wr hsok.out hll false (Lib.hid hF))
          have hT : tot1 l ≤ 5000 ∧ l.length ≤ 100 := by
            unfold farL at hF
            simp at hF
            omega
          obtain ⟨hT1, hT2⟩ := hT
          have hsz : sz l ≤ 5000 := by unfold sz; rw [tot_size hT1]; exact hT1
          clear hF
          by_cases h5 : 5000 < b.size
          · go_wp2_with (first
              | (go_at_call 9; ((with_reducible refine hFa.out.mono ?_); rintro e w3 ⟨rfl, rfl⟩))
              | (go_at_call 10; ((with_reducible refine (alive_any _ hEw.out).mono ?_); rintro e w4 ⟨rfl, hb4⟩)))
            go_ret
            exact ⟨rfl, onB hbA.out hb4⟩
          · have hPu := Lib.hid (rputq A9 c9 l wr hsok.out (by omega) (by omega))
            obtain ⟨P, hPd, hPz, hPe⟩ : ∃ P : ByteArray, Hid (P.data.toList = putF (txt l)) ∧ P.size ≤ 8030 ∧ Hid ((⟨(putF (txt l)).toArray⟩ : ByteArray) = P) := ⟨⟨(putF (txt l)).toArray⟩, Lib.hid (by simp), by
              have := putF_size l (by omega) (by omega)
              show (putF (txt l)).toArray.size ≤ _
              rw [List.size_toArray]
              omega, Lib.hid rfl⟩
            rw [hPe.out] at hPu
            clear hPe
            have hle2 : Hid (∀ m ∈ ls.take (k + 1), m.length ≤ 100 ∧ ∀ x ∈ m, x.size ≤ 5000) := Lib.hid (by
              intro m hm
              rw [List.take_add_one, hxH.out] at hm
              rcases List.mem_append.1 hm with h | h
              · exact hle.out m h
              · simp at h
                subst h
                refine ⟨hT2, fun x hx => ?_⟩
                have : x.size ≤ sz m := mem_sum (List.mem_map_of_mem hx)
                omega)
            have hem : emp ls k ≤ 4 * ls.length := by
              unfold emp
              have := List.length_filter_le (·.isEmpty) ((ls.take k).map txt)
              simp at this ⊢
              omega
            by_cases hz : l.length = 0
            · rw [if_pos hz] at hen
              obtain rfl : l = [] := List.eq_nil_of_length_eq_zero hz
              have hFa0 := Lib.hid (show Calls Tryd.prog 9 #[.slice A9 0 c9] wr fun e w' => e = .returned (.bool false) ∧ wr = w' from hFa.out)
              have hPu0 := Lib.hid (show Calls Tryd.prog 15 #[.slice A9 0 c9] wr fun e w' => e = .returned (.string P) ∧ ∃ m, w' = wr.drewN m from hPu.out)
              clear hFa hPu hz
              go_wp2_with (first
                | (go_at_call 9; ((with_reducible refine hFa0.out.mono ?_); rintro e w3 ⟨rfl, rfl⟩))
                | (go_at_call 15; ((with_reducible refine hPu0.out.mono ?_); rintro e w4 ⟨rfl, hw4⟩)))
              have hW4 := Lib.hid (drewN_more hWd.out hw4)
              clear hw4
              have hbn : Hid ((b ++ P).data.toList = putsB ls (k + 1)) := Lib.hid (by rw [append_data, hb.out, hPd.out, hnx.out])
              have hbz2 : (b ++ P).size ≤ 14000 := by rw [ByteArray.size_append]; omega
              go_roundw
              case rel => exact ⟨k + 1, b ++ P, by go_num, by omega, rfl, by rw [hen.out]; simp , hbn, hbz2, hle2, hW4⟩
              case measure => simp [intOf]; omega
            · rw [if_neg hz] at hen
              go_wp2_with (first
                | (go_at_call 9; ((with_reducible refine hFa.out.mono ?_); rintro e w3 ⟨rfl, rfl⟩))
                | (go_at_call 15; ((with_reducible refine hPu.out.mono ?_); rintro e w4 ⟨rfl, hw4⟩)))
              have hW4 := Lib.hid (drewN_more hWd.out hw4)
              clear hw4
              have hbn : Hid ((b ++ P).data.toList = putsB ls (k + 1)) := Lib.hid (by rw [append_data, hb.out, hPd.out, hnx.out])
              have hbz2 : (b ++ P).size ≤ 14000 := by rw [ByteArray.size_append]; omega
              go_roundw
              case rel => exact ⟨k + 1, b ++ P, by go_num, by omega, rfl, by rw [hen.out]; simp , hbn, hbz2, hle2, hW4⟩
              case measure => simp [intOf]; omega
      · obtain rfl : k = ls.length := by omega
        obtain ⟨R, hR⟩ : ∃ R, R = feedF A B L (Inp.none b.data.toList) := ⟨_, rfl⟩
        have hlm : ∀ l ∈ ls.map txt, l.length ≤ 4611686018427387904 ∧ ∀ a ∈ l, a.length ≤ 4611686018427387904 := by
          intro l hl
          obtain ⟨m, hm, rfl⟩ := List.mem_map.1 hl
          obtain ⟨h1, h2⟩ := hle.out m (by rw [List.take_length]; exact hm)
          refine ⟨by simp [txt]; omega, fun a ha => ?_⟩
          simp only [txt, List.mem_map] at ha
          obtain ⟨x, hx, rfl⟩ := ha
          have := h2 x hx
          have e : x.data.toList.length = x.size := size_len x
          omega
        have hpf := puts_feed (A := A) (B := B) (L := L) (ls.map txt) hlm
        have hbe : b.data.toList = (ls.map txt).flatMap putF := by rw [hb.out]; unfold putsB; rw [List.take_length]
        rw [← hbe, ← hR] at hpf
        obtain ⟨hpf1, hpf2⟩ := hpf
        have hfw := feed_few (A := A) (B := B) (L := L) (b.data.toList.length + 1) (Inp.none b.data.toList) (by simp [Inp.none]) (fun h => absurd rfl h)
        rw [← hR] at hfw
        have hfwH := Lib.hid hfw
        have hem : emp ls ls.length = 4 * ((ls.map txt).filter (·.isEmpty)).length := by unfold emp; rw [List.take_length]
        have hbl : b.data.toList.length = b.size := size_len b
        have hEw := Lib.hid (hE5.out.on hbW)
        obtain ⟨l0, l1, l2⟩ := lim_facts ((hbW.block w.heap.size (by omega)).trans hn1H.out)
        have hcall := Lib.hid (show Calls Tryd.prog 11 #[.agg #[.string ⟨#[]⟩, .slice none 0 0, .int .i64 0, .int .i64 0, .bool false, .int .i64 0, .int .i64 0], .string b, .agg #[.int .i64 la, .int .i64 lb, .int .i64 ll]] wr (FeedEnd wr A ((MI.none ⟨#[]⟩).size + (MI.none ⟨#[]⟩).rest.size + b.size) (feedF A B L ((MI.none ⟨#[]⟩).inp.add b.data.toList))) from feed_any (MI.none ⟨#[]⟩) none 0 b la lb ll A B L wr hAH hBH hLH hA2 hB2 hL2 (none_ok _) (by show 0 + 0 + b.size ≤ 1000000; omega) ⟨fun _ => ⟨rfl, rfl⟩, fun i x hx => by simp [MI.none] at hx⟩ hEw.out hEw.out)
        rw [none_add, ← hR] at hcall
        have hg5 := Lib.hid ((hbW.block g5 hs5).trans hn5H.out)
        have hbA := Lib.hid (onB hb5H.out hbWH.out)
        have hgz : g5 < wr.heap.size := Nat.lt_of_lt_of_le hs5 hbW.size
        clear hR hfw hlm hbe hb hle hWd hbW hr5 hE5
        rcases hpf1 with ⟨d, hd, hd2⟩ | ⟨hd, htold⟩
        · have hdH := Lib.hid hd
          have hp2H := Lib.hid hpf2
          clear hd hpf2 hfwH
          go_upto_region 16 with (go_at_call 11; ((with_reducible refine hcall.out.mono ?_); rintro e w2 hfe; obtain ⟨q, Aq, cq, rfl, hb2, hq, hdb⟩ := fe_inl hfe hdH.out; clear hfe))
          have hql : q.length ≤ ls.length := by
            have := congrArg List.length hq
            have h2 := hp2H.out
            simp at this h2
            omega
          have hE2 := Lib.hid (hEw.out.on (onB hb2 ((Below.refl _ _).alloc (Nat.le_refl _) (.cells #[.string ⟨#[]⟩, .slice none 0 0, .int .i64 0, .int .i64 0, .bool false, .int .i64 0, .int .i64 d] 29))))
          have hbB := Lib.hid (onB hbA.out (onB hb2 ((Below.refl _ _).alloc (Nat.le_refl _) (.cells #[.string ⟨#[]⟩, .slice none 0 0, .int .i64 0, .int .i64 0, .bool false, .int .i64 0, .int .i64 d] 29))))
          clear hb2 hq
          go_wp2_with (go_at_call 10; ((with_reducible refine (alive_any _ hE2.out).mono ?_); rintro e w4 ⟨rfl, hb4⟩))
          go_ret
          exact ⟨rfl, onB hbB.out hb4⟩
        · have hdH := Lib.hid hd
          clear hd
          go_upto_region 16 with (go_at_call 11; ((with_reducible refine hcall.out.mono ?_); rintro e w2 hfe; obtain ⟨q, Aq, cq, rfl, hb2, hq, hrq, hqn⟩ := fe_inr hfe hdH.out; clear hfe))
          rw [← hq] at htold
          have hfq : Hid (∀ p ∈ q, p.1 ≠ [] ∧ p.1.length ≤ A) := Lib.hid (fun p hp => by
            have := hfwH.out (rq p) (by rw [← hq]; exact List.mem_map_of_mem hp)
            obtain ⟨h1, h2⟩ := this
            refine ⟨fun e => h1 (by simp [rq, txt, e]), by simpa [rq, txt] using h2⟩)
          have hqn2 : q.length ≤ 14000 := by
            have : (MI.none ⟨#[]⟩).size + (MI.none ⟨#[]⟩).rest.size + b.size = 0 + 0 + b.size := rfl
            omega
          have hba : Below w2.heap.size w2 (w2.alloc (.cells #[.string ⟨#[]⟩, .slice none 0 0, .int .i64 0, .int .i64 0, .bool false, .int .i64 0, .int .i64 0] 29)) := (Below.refl _ _).alloc (Nat.le_refl _) _
          have hE2 := Lib.hid (hEw.out.on (onB hb2 hba))
          have hbB := Lib.hid (onB hbA.out (onB hb2 hba))
          have hn2 := heap_alloc_new w2 (.cells #[.string ⟨#[]⟩, .slice none 0 0, .int .i64 0, .int .i64 0, .bool false, .int .i64 0, .int .i64 0] 29)
          have hs2 : w2.heap.size < (w2.alloc (.cells #[.string ⟨#[]⟩, .slice none 0 0, .int .i64 0, .int .i64 0, .bool false, .int .i64 0, .int .i64 0] 29)).heap.size := by simp
          have hr2 := Lib.hid (hrq.on hba)
          have hg6 := Lib.hid ((Lib.alloc_old w2 (.cells #[.string ⟨#[]⟩, .slice none 0 0, .int .i64 0, .int .i64 0, .bool false, .int .i64 0, .int .i64 0] 29) g5 (Nat.lt_of_lt_of_le hgz hb2.size)).trans ((hb2.block g5 hgz).trans hg5.out))
          have hgz2 : g5 < (w2.alloc (.cells #[.string ⟨#[]⟩, .slice none 0 0, .int .i64 0, .int .i64 0, .bool false, .int .i64 0, .int .i64 0] 29)).heap.size := by have := hb2.size; simp; omega
          clear hb2 hba hrq hq hqn l0 l1 l2 hg5
          generalize w2.alloc (.cells #[.string ⟨#[]⟩, .slice none 0 0, .int .i64 0, .int .i64 0, .bool false, .int .i64 0, .int .i64 0] 29) = W2 at hE2 hbB hn2 hs2 hr2 hg6 hgz2 ⊢
          generalize w2.heap.size = g at hn2 hs2 ⊢
          have hn2H := Lib.hid hn2
          clear hn2
          have hb0 : Below W2.heap.size W2 W2 := Below.refl _ _
          have hmx : toldM q q.length ≤ b.size := by rw [toldM_all]; omega
          have hmy := toldM_all q
          have hsum : emp ls ls.length + toldM q q.length = b.size := by rw [hmy, hem]; omega
          have hemz : emp ls ls.length ≤ 14000 := by omega
          have hemH := Lib.hid hem
          clear hmy htold hem hmx hpf2 hbl
          go_wp2_with fail
          go_loopw [7, 71] (fun n i wq => ∃ j : Nat, i = .int .i64 j ∧ j ≤ q.length ∧ n = .int .i64 ((emp ls ls.length + toldM q j : Nat)) ∧ Below W2.heap.size W2 wq) (fun _ i _ => q.length - (intOf i).toNat)
          case atStart => exact ⟨0, rfl, by omega, by (have h1 := hemH.out; have h0 : toldM q 0 = 0 := rfl; rw [h0, Nat.add_zero, h1]; first | rfl | simp | (simp; omega)), hb0⟩
          case round =>
            clear hb0
            obtain ⟨j, rfl, hj, rfl, hbq⟩ := hrel
            have hbqH := Lib.hid hbq
            by_cases hjl : j < q.length
            · obtain ⟨p, hx⟩ : ∃ x, q[j]? = some x := ⟨_, List.getElem?_eq_getElem hjl⟩
              obtain ⟨hpne, hpA⟩ := hfq.out p (List.mem_of_getElem? hx)
              obtain ⟨a, d0, d1, rfl, _, hal, hc0, hc1, A1, cap1, hd, _, _⟩ := hr2.out j p hx
              obtain ⟨rfl, rfl⟩ : d0 = .slice A1 p.1.length cap1 ∧ d1 = .int .i64 p.2 := by simpa using hd
              have hw0 : wr.cell? (a.add (j * 2)) = some (.slice A1 p.1.length cap1) := (hbq.cell (p := a.add (j * 2)) (by rw [block_of_add]; exact hal)).trans hc0
              have hw1 : wr.cell? ⟨(a.add (j * 2)).block, (a.add (j * 2)).off + 1, none⟩ = some (.int .i64 p.2) := (hbq.cell (p := ⟨(a.add (j * 2)).block, (a.add (j * 2)).off + 1, none⟩) (by show (a.add (j * 2)).block < _; rw [block_of_add]; exact hal)).trans hc1
              have hnx := toldM_next hx
              have hle3 := toldM_le q (j + 1)
              have hle4 := toldM_all q
              have hl5 := (lim_facts ((hbq.block g5 hgz2).trans hg6.out)).1
              have hg5lt : g5 < wr.heap.size := Nat.lt_of_lt_of_le hgz2 hbq.size
              have hpos : 0 < p.1.length := List.length_pos_iff.2 hpne
              have hnv : Hid ((emp ls ls.length : Int) + toldM q j + p.2 = ((emp ls ls.length + toldM q (j + 1) : Nat) : Int)) := Lib.hid (by rw [hnx]; omega)
              have hp2 : p.2 ≤ 20000 := by omega
              have hjj : toldM q j ≤ 20000 := by omega
              clear hc0 hc1 hd hx hbq hnx hle3 hle4 hpne
              go_wp2_with fail
              case roundEnd => exact ⟨⟨j + 1, by go_num, by omega, congrArg (Value.int .i64) hnv.out, hbqH.out.alloc hbqH.out.size _⟩, by simp [intOf]; omega⟩
              all_goals (rename_i hor; rcases hor with h9 | h9; (exfalso; omega); (exfalso; have := beq_iff_eq.1 h9; omega))
            · obtain rfl : j = q.length := by omega
              obtain ⟨i0, i1, i2, i3, i4, i5, i6, j0, j1, j2, j3, j4, j5, j6⟩ := in_facts ((hbq.block g hs2).trans hn2H.out)
              have hEq := Lib.hid (hE2.out.on hbq)
              have hsb : (((emp ls ls.length + toldM q q.length : Nat) : Int) == (b.size : Int)) = true := beq_iff_eq.2 (by omega)
              have hsb2 : ((emp ls ls.length : Int) + (toldM q q.length : Int) == (b.size : Int)) = true := beq_iff_eq.2 (by omega)
              have hfin := Lib.hid (onB hbB.out hbq)
              clear hbq
              go_wp2_with (first
                | (go_at_call 16; ((with_reducible refine (idle_yes _).mono ?_); rintro e w5 ⟨rfl, hb5⟩))
                | (go_at_call 10; ((with_reducible refine (alive_any _ (hEq.out.on hb5)).mono ?_); rintro e w6 ⟨rfl, hb6⟩)))
              go_ret
              exact ⟨rfl, onB (onB hfin.out hb5) hb6⟩
end Go.Proofs.YtakjindobmbhiaaDoor
