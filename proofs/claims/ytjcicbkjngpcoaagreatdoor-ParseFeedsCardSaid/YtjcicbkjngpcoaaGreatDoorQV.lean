/-
  The walk of the law of what is put and fed back. Premises: the library's variable ErrSyntax holds an error, or none; its table of powers of ten holds what its initialiser lays.
-/
import Derived.Test.YtjcicbkjngpcoaaGreatDoorQU
namespace Go.Proofs.YtjcicbkjngpcoaaGreatDoor
open Go.RowKit Dec Pq S4

theorem tot_size {ss : List ByteArray} (h : tot1 ss ≤ 5000) : (ss.map (·.size)).sum = tot1 ss := by
  induction ss with
  | nil => rfl
  | cons a l ih =>
    simp only [tot1, List.map_cons, List.sum_cons] at h ih ⊢
    have := ih (by omega)
    omega
theorem none_add (b : ByteArray) : (MI.none ⟨#[]⟩).inp.add b.data.toList = Inp.none b.data.toList := by
  simp [MI.none, MI.inp, Inp.add, Inp.none, txt]
theorem mem_sum {l : List Nat} {x : Nat} (h : x ∈ l) : x ≤ l.sum := by
  induction l with
  | nil => cases h
  | cons a l ih =>
    rcases List.mem_cons.1 h with rfl | h
    · simp
    · have := ih h
      simp only [List.sum_cons]
      omega
theorem fe_inl {w w' : World} {A n : Nat} {R : Sum Int Inp × List Rq} {e : Ending} {k : Int} (h : FeedEnd w A n R e w') (hk : R = (.inl k, [])) : ∃ (Aq : Option Addr) (cq : Nat),
    e = .returned (.tuple #[.agg #[.string ⟨#[]⟩, .slice none 0 0, .int .i64 0, .int .i64 0, .bool false, .int .i64 0, .int .i64 k], .slice Aq 0 cq, .int .i64 k]) ∧ Below w.heap.size w w' := by
  obtain ⟨hb, q, Aq, cq, hq, _, hr, _, hR⟩ := h
  rw [hk] at hR hq
  obtain ⟨hk0, he⟩ := hR
  have hq0 : q = [] := by simpa using hq
  subst hq0
  exact ⟨Aq, cq, he, hb⟩
theorem fe_inr {w w' : World} {A n : Nat} {R : Sum Int Inp × List Rq} {e : Ending} (h : FeedEnd w A n R e w') (hk : R.1 = .inr (Inp.none [])) : ∃ (q : List MR) (Aq : Option Addr) (cq : Nat),
    e = .returned (.tuple #[.agg #[.string ⟨#[]⟩, .slice none 0 0, .int .i64 0, .int .i64 0, .bool false, .int .i64 0, .int .i64 0], .slice Aq q.length cq, .int .i64 0]) ∧ Below w.heap.size w w' ∧ q.map rq = R.2 ∧ Rqs w' Tr Aq q := by
  obtain ⟨hb, q, Aq, cq, hq, _, hr, hn, hR⟩ := h
  rw [hk] at hR
  obtain ⟨my, a, c, hmy, _, _, hac, _, he⟩ := hR
  obtain rfl : my = MI.none ⟨#[]⟩ := mi_inj hmy
  obtain ⟨rfl, rfl⟩ := hac rfl
  exact ⟨q, Aq, cq, he, hb, hq, hr.keep (fun _ _ _ => rfl) (Nat.le_refl _) (fun _ _ _ => trivial)⟩
theorem fe_part {w w' : World} {A n : Nat} {y : Inp} {e : Ending} (h : FeedEnd w A n (.inr y, []) e w') : ∃ (my : MI) (a : Option Addr) (c : Nat) (Aq : Option Addr) (cq : Nat),
    e = .returned (.tuple #[.agg #[.string my.rest, .slice a my.args.length c, .int .i64 my.left, .int .i64 my.size, .bool my.body, .int .i64 my.need, .int .i64 0], .slice Aq 0 cq, .int .i64 0]) ∧ Below w.heap.size w w' := by
  obtain ⟨hb, q, Aq, cq, hq, _, hr, hn, my, a, c, hmy, _, _, hac, _, he⟩ := h
  have hq0 : q = [] := by simpa using hq
  subst hq0
  exact ⟨my, a, c, Aq, cq, he, hb⟩
/-- So far all arguments are within the limits. -/
def rightB (A B : Nat) (ss : List ByteArray) (k : Nat) : Bool := decide (ss.length ≤ A) && (ss.take k).all fun x => decide (x.size ≤ B)
theorem right_next {A B : Nat} {ss : List ByteArray} {k : Nat} {x : ByteArray} (h : ss[k]? = some x) : rightB A B ss (k + 1) = (rightB A B ss k && decide (x.size ≤ B)) := by
  unfold rightB
  rw [List.take_add_one, h]
  simp [Bool.and_assoc]
theorem put_len {ss : List ByteArray} (hn : ss.length ≤ 1000) (hs : sz ss ≤ 100000) : (putF (txt ss)).length ≤ 30 + 30 * ss.length + sz ss := by
  have h := putB_len (ss := ss) (Nat.le_refl _) hn hs
  rw [putB_all, List.take_length] at h
  exact h
theorem cut_at (a : Int) (n : Nat) (hn : 0 < n) (hn2 : n ≤ 1000000) : ∃ K : Nat, K < n ∧ wrap64 ((IntKind.u64.wrap a).tmod (n : Int)) = (K : Int) := by
  have h0 : 0 ≤ IntKind.u64.wrap a := wrap_u64_nonneg a
  obtain ⟨u, hu⟩ : ∃ u : Nat, IntKind.u64.wrap a = (u : Int) := ⟨(IntKind.u64.wrap a).toNat, by omega⟩
  have hm := Nat.mod_lt u hn
  refine ⟨u % n, hm, ?_⟩
  rw [hu, show ((u : Int).tmod (n : Int)) = ((u % n : Nat) : Int) from rfl]
  exact IntWalk.wrap64_in _ (by omega)
theorem one_rqs {W : World} {b : Nat} {A0 : Option Addr} {c0 n : Nat} {ss : List ByteArray} (h : W.heap[b]? = some (.cells #[.slice A0 ss.length c0, .int .i64 n] 43 (0, 0))) (hs : SOk W Tr A0 ss) (hne : ss ≠ []) : Rqs W Tr (some ⟨b, 0, none⟩) [(ss, n)] := by
  intro i p hp
  match i, hp with
  | 0, hp =>
    obtain rfl := Option.some.inj hp
    exact ⟨_, _, _, rfl, trivial, heap_lt h, Lib.cell_of_heap h 0, Lib.cell_of_heap h 1, A0, c0, rfl, hne, hs⟩
theorem z7 {wp W : World} (h : Below (wp.alloc (.cells #[.string ⟨#[]⟩, .slice none 0 0, .int .i64 0, .int .i64 0, .bool false, .int .i64 0, .int .i64 0] 29)).drew.heap.size (wp.alloc (.cells #[.string ⟨#[]⟩, .slice none 0 0, .int .i64 0, .int .i64 0, .bool false, .int .i64 0, .int .i64 0] 29)).drew W) :
    W.heap[wp.heap.size]? = some (.cells #[.string ⟨#[]⟩, .slice none 0 0, .int .i64 0, .int .i64 0, .bool false, .int .i64 0, .int .i64 0] 29 (0, 0)) :=
  (h.block wp.heap.size (by show _ < (wp.alloc _).heap.size; simp)).trans (heap_alloc_new wp _)
theorem cut_new {Wn wm : World} {Aq : Option Addr} {cq : Nat} {v0 v1 v2 v3 v4 v5 : Value} (hb : Below Wn.heap.size Wn wm) :
    ∃ (g : Nat) (A' : Option Addr) (c' : Nat), Value.pointer (some ⟨wm.heap.size, 0, none⟩) = .pointer (some ⟨g, 0, none⟩) ∧ Value.slice Aq 0 cq = .slice A' 0 c' ∧ Value.int .i64 0 = .int .i64 0 ∧ (wm.alloc (.cells #[v0, v1, v2, v3, v4, v5, .int .i64 0] 29)).cell? ⟨g, 6, none⟩ = some (.int .i64 0) ∧ Below Wn.heap.size Wn (wm.alloc (.cells #[v0, v1, v2, v3, v4, v5, .int .i64 0] 29)) :=
  ⟨_, _, _, rfl, rfl, rfl, Lib.cell_of_heap (heap_alloc_new _ _) 6, hb.alloc hb.size _⟩
theorem cut_old {Wn wm : World} {b : Nat} {Aq : Option Addr} {cq : Nat} {v0 v1 v2 v3 v4 v5 : Value} {o0 o1 o2 o3 o4 o5 o6 : Value} (hb : Below Wn.heap.size Wn wm) (hz : wm.heap[b]? = some (.cells #[o0, o1, o2, o3, o4, o5, o6] 29 (0, 0))) (hle : Wn.heap.size ≤ b) :
    ∃ (g : Nat) (A' : Option Addr) (c' : Nat), Value.pointer (some ⟨b, 0, none⟩) = .pointer (some ⟨g, 0, none⟩) ∧ Value.slice Aq 0 cq = .slice A' 0 c' ∧ Value.int .i64 0 = .int .i64 0 ∧ (((((((wm.setCell ⟨b, 0, none⟩ v0).setCell ⟨b, 1, none⟩ v1).setCell ⟨b, 2, none⟩ v2).setCell ⟨b, 3, none⟩ v3).setCell ⟨b, 4, none⟩ v4).setCell ⟨b, 5, none⟩ v5).setCell ⟨b, 6, none⟩ (.int .i64 0)).cell? ⟨g, 6, none⟩ = some (.int .i64 0) ∧
      Below Wn.heap.size Wn (((((((wm.setCell ⟨b, 0, none⟩ v0).setCell ⟨b, 1, none⟩ v1).setCell ⟨b, 2, none⟩ v2).setCell ⟨b, 3, none⟩ v3).setCell ⟨b, 4, none⟩ v4).setCell ⟨b, 5, none⟩ v5).setCell ⟨b, 6, none⟩ (.int .i64 0)) := by
  obtain ⟨k1, _, _, k4⟩ := store7 hz v0 v1 v2 v3 v4 v5 (.int .i64 0)
  exact ⟨_, _, _, rfl, rfl, rfl, Lib.cell_of_heap k1 6, k4 _ _ hle hb⟩
theorem rights {A B : Nat} {ss : List ByteArray} (h : rightB A B ss ss.length = true) : ss.length ≤ A ∧ ∀ x ∈ ss, x.size ≤ B := by
  unfold rightB at h
  rw [List.take_length] at h
  simp at h
  exact h
theorem wrongs {A B : Nat} {ss : List ByteArray} (h : rightB A B ss ss.length = false) : A < (txt ss).length ∨ ∃ a ∈ txt ss, B < a.length := by
  unfold rightB at h
  rw [List.take_length] at h
  by_cases h1 : ss.length ≤ A
  · right
    rw [decide_eq_true h1, Bool.true_and] at h
    have h2 := List.all_eq_false.1 h
    obtain ⟨x, hx, hx2⟩ := h2
    refine ⟨x.data.toList, by simp only [txt, List.mem_map]; exact ⟨x, hx, rfl⟩, ?_⟩
    have e : x.data.toList.length = x.size := size_len x
    simp at hx2
    omega
  · left; simp [txt]; omega
set_option maxRecDepth 100000 in
set_option maxHeartbeats 8000000 in
theorem back_any (A0 : Option Addr) (c0 : Nat) (ss : List ByteArray) (la lb ll at_ : Int) (w : World) (hr : SOk w Tr A0 ss) (hl : ss.length ≤ 140737488355328) (hE : ErrAt w) (hT : Tab w) :
    Calls Tryz.prog 4 #[.slice A0 ss.length c0, .agg #[.int .i64 la, .int .i64 lb, .int .i64 ll], .int .i64 at_] w fun e w' => e = .returned (.bool true) ∧ Below w.heap.size w w' := by
  have n1 := heap_alloc_new w (.cells #[.int .i64 la, .int .i64 lb, .int .i64 ll] 23)
  have hb1 := (Below.refl w.heap.size w).alloc (Nat.le_refl _) (.cells #[.int .i64 la, .int .i64 lb, .int .i64 ll] 23)
  have hs1 : (w.alloc (.cells #[.int .i64 la, .int .i64 lb, .int .i64 ll] 23)).heap.size = w.heap.size + 1 := by simp
  obtain ⟨A, hA⟩ : ∃ A : Nat, betw la 1 65536 = (A : Int) := ⟨(betw la 1 65536).toNat, by unfold betw; omega⟩
  obtain ⟨B, hB⟩ : ∃ B : Nat, betw lb 1 1048576 = (B : Int) := ⟨(betw lb 1 1048576).toNat, by unfold betw; omega⟩
  obtain ⟨L, hL⟩ : ∃ L : Nat, betw ll 1 65536 = (L : Int) := ⟨(betw ll 1 65536).toNat, by unfold betw; omega⟩
  have hA2 : A ≤ 65536 := by unfold betw at hA; omega
  have hB2 : B ≤ 1048576 := by unfold betw at hB; omega
  have hL2 : L ≤ 65536 := by unfold betw at hL; omega
  have hAH := Lib.hid hA
  have hBH := Lib.hid hB
  have hLH := Lib.hid hL
  clear hA hB hL
  have hrH := Lib.hid (hr.on hb1)
  have hEH := Lib.hid (hE.on hb1)
  have hTH := Lib.hid (hT.on hb1)
  have hb1H := Lib.hid hb1
  clear hr hE hb1 hT
  cases hF : farL ss with
  | true =>
    have hFH := Lib.hid hF
    go_enter Tryz.func4, Tryz.ntmps4
    go_wp2_with (first
      | (go_at_call 5; ((with_reducible refine (far_any A0 c0 ss _ hrH.out hl true hFH).mono ?_); rintro e w' ⟨rfl, rfl⟩))
      | (go_at_call 6; ((with_reducible refine (alive_any _ hEH.out).mono ?_); rintro e w' ⟨rfl, hb2⟩)))
    go_ret
    exact ⟨rfl, onB hb1H.out hb2⟩
  | false =>
    have hFH := Lib.hid hF
    have hTT : tot1 ss ≤ 5000 ∧ ss.length ≤ 100 := by
      unfold farL at hF
      simp at hF
      omega
    obtain ⟨hT1, hT2⟩ := hTT
    have hsz : sz ss ≤ 5000 := by unfold sz; rw [tot_size hT1]; exact hT1
    obtain ⟨P, hPd, hPz, hPe⟩ : ∃ P : ByteArray, Hid (P.data.toList = putF (txt ss)) ∧ P.size ≤ 8030 ∧ Hid ((⟨(putF (txt ss)).toArray⟩ : ByteArray) = P) := ⟨⟨(putF (txt ss)).toArray⟩, Lib.hid (by simp), by
      have := put_len (ss := ss) (by omega) (by omega)
      show (putF (txt ss)).toArray.size ≤ _
      rw [List.size_toArray]
      omega, Lib.hid rfl⟩
    have hPpos : 0 < P.size := by
      have e : P.data.toList.length = P.size := size_len P
      rw [hPd.out] at e
      simp [putF] at e
      omega
    have hRL := Lib.hid (fun w => rlimits_any la lb ll w)
    rw [hAH.out, hBH.out, hLH.out] at hRL
    have hRP : Hid (∀ W, SOk W Tr A0 ss → Calls Tryz.prog 15 #[.slice A0 ss.length c0] W fun e w' => e = .returned (.string P) ∧ ∃ m, w' = W.drewN m) := Lib.hid (by rw [← hPe.out]; exact fun W h => rputq A0 c0 ss W h (by omega) (by omega))
    clear hF
    go_enter Tryz.func4, Tryz.ntmps4
    go_upto_region 3 with (go_at_call 5; ((with_reducible refine (far_any A0 c0 ss _ hrH.out hl false hFH).mono ?_); rintro e w' ⟨rfl, rfl⟩))
    generalize w.alloc (.cells #[.int .i64 la, .int .i64 lb, .int .i64 ll] 23) = W0 at n1 hs1 hrH hEH hTH hb1H ⊢
    have hPP : Hid (Calls Tryz.prog 14 #[.slice A0 ss.length c0] W0 fun e w' => e = .returned (.string P) ∧ Below W0.heap.size W0 w') := Lib.hid (by rw [← hPe.out]; exact put_any A0 c0 ss W0 hTH.out hrH.out (by omega) (by omega))
    have n1H := Lib.hid n1
    have hlt : w.heap.size < W0.heap.size := by omega
    clear n1 hs1 hPe
    go_upto_region 6 with (first
      | (go_at_call 14; ((with_reducible refine hPP.out.mono ?_); rintro e w1 ⟨rfl, hbp⟩))
      | (go_at_call 15; ((with_reducible refine (hRP.out _ (hrH.out.on hbp)).mono ?_); rintro e w2 ⟨rfl, m2, rfl⟩)))
    have hbW : Below W0.heap.size W0 (w1.drewN m2) := below_drewN hbp m2
    generalize w1.drewN m2 = W1 at hbW ⊢
    clear hbp
    have hl1 := (hbW.block w.heap.size hlt).trans n1H.out
    obtain ⟨l0, l1, l2⟩ := lim_facts hl1
    have hl1H := Lib.hid hl1
    have hbWH := Lib.hid hbW
    clear hl1 hbW
    go_upto_region 7 with (go_at_call 12; ((with_reducible refine (hRL.out _).mono ?_); rintro e w3 ⟨rfl, hb3⟩))
    have hba : Below W1.heap.size W1 (w3.alloc (.cells #[.int .i64 (A : Int), .int .i64 (B : Int), .int .i64 (L : Int)] 23)) := hb3.alloc hb3.size _
    have hn5 := heap_alloc_new w3 (.cells #[.int .i64 (A : Int), .int .i64 (B : Int), .int .i64 (L : Int)] 23)
    have hbx := onB hbWH.out hba
    have hl6 := (hbx.block w.heap.size hlt).trans n1H.out
    clear hl1H hb3 hba l0 l1 l2 hRP hRL hPP
    generalize w3.alloc (.cells #[.int .i64 (A : Int), .int .i64 (B : Int), .int .i64 (L : Int)] 23) = W2 at hn5 hbx hl6 ⊢
    generalize w3.heap.size = g5 at hn5 ⊢
    obtain ⟨l0, l1, l2⟩ := lim_facts hl6
    obtain ⟨v0, v1, v2⟩ := lim_facts hn5
    have hrW := Lib.hid (hrH.out.on hbx)
    have hEW := Lib.hid (hEH.out.on hbx)
    have hl6H := Lib.hid hl6
    have hbxH := Lib.hid (onB hb1H.out hbx)
    clear hn5 hl6 hbx hrH hEH hTH hb1H hbWH
    have hr0 : Hid (decide (ss.length ≤ A) = rightB A B ss 0) := Lib.hid (by simp [rightB])
    have hlt2 : w.heap.size < W2.heap.size := heap_lt hl6H.out
    have hcall := Lib.hid (show Calls Tryz.prog 7 #[.agg #[.string ⟨#[]⟩, .slice none 0 0, .int .i64 0, .int .i64 0, .bool false, .int .i64 0, .int .i64 0], .string P, .agg #[.int .i64 la, .int .i64 lb, .int .i64 ll]] W2 (FeedEnd W2 A ((MI.none ⟨#[]⟩).size + (MI.none ⟨#[]⟩).rest.size + P.size) (feedF A B L ((MI.none ⟨#[]⟩).inp.add P.data.toList))) from feed_any (MI.none ⟨#[]⟩) none 0 P la lb ll A B L W2 hAH hBH hLH hA2 hB2 hL2 (none_ok _) (by show 0 + 0 + P.size ≤ 1000000; omega) ⟨fun _ => ⟨rfl, rfl⟩, fun i x hx => by simp [MI.none] at hx⟩ hEW.out hEW.out)
    rw [none_add, hPd.out] at hcall
    have hlm : (txt ss).length ≤ 4611686018427387904 ∧ ∀ a ∈ txt ss, a.length ≤ 4611686018427387904 := by
      refine ⟨by simp [txt]; omega, fun a ha => ?_⟩
      simp only [txt, List.mem_map] at ha
      obtain ⟨x, hx, rfl⟩ := ha
      have h1 : x.size ≤ sz ss := mem_sum (List.mem_map_of_mem hx)
      have e : x.data.toList.length = x.size := size_len x
      omega
    have hlmH := Lib.hid hlm
    obtain ⟨K, hK, hKe⟩ := cut_at at_ P.size hPpos (by omega)
    have hKd : (P.extract 0 K).data.toList = (putF (txt ss)).take K := by rw [S4.head_data, hPd.out]
    have hPl : (putF (txt ss)).length = P.size := by rw [← hPd.out]; exact size_len P
    have hKdH := Lib.hid hKd
    have hPlH := Lib.hid hPl
    have hKeH := Lib.hid hKe
    clear hlm hKd hPl hKe
    go_wp2_with fail
    go_loop [9, 36] (fun r i => ∃ (k : Nat) (rb : Bool), i = .int .i64 k ∧ k ≤ ss.length ∧ r = .bool rb ∧ Hid (rb = rightB A B ss k)) (fun _ i => ss.length - (intOf i).toNat)
    case atStart => exact ⟨0, _, rfl, by omega, rfl, hr0⟩
    case round =>
      clear hr0
      obtain ⟨k, rb, rfl, hk, rfl, hrb⟩ := hrel
      by_cases hkl : k < ss.length
      · obtain ⟨x, hx⟩ : ∃ x, ss[k]? = some x := ⟨_, List.getElem?_eq_getElem hkl⟩
        obtain ⟨a, rfl, _, hal, hc⟩ := hrW.out k x hx
        have hnx := Lib.hid (right_next (A := A) (B := B) hx)
        clear hx
        cases rb with
        | true =>
          go_wp2_with fail
          go_round
          case rel => exact ⟨k + 1, decide (x.size ≤ B), by go_num, by omega, rfl, Lib.hid (by rw [hnx.out, ← hrb.out, Bool.true_and])⟩
          case measure => simp [intOf]; omega
        | false =>
          go_wp2_with fail
          go_round
          case rel => exact ⟨k + 1, false, by go_num, by omega, rfl, Lib.hid (by rw [hnx.out, ← hrb.out, Bool.false_and])⟩
          case measure => simp [intOf]; omega
      · have hke : k = ss.length := by omega
        have hrb2 : Hid (rb = rightB A B ss ss.length) := Lib.hid (by rw [hrb.out, hke])
        clear hrb hke
        cases rb with
        | false =>
          obtain ⟨d, hd, hd0⟩ : ∃ d : Int, feedF A B L (Inp.none (putF (txt ss))) = (.inl d, []) ∧ (d != 0) = true := by
            have h := put_bad (A := A) (B := B) (L := L) (txt ss) [] hlmH.out.1 hlmH.out.2 (wrongs hrb2.out.symm)
            rw [List.append_nil] at h
            rcases h with h | h
            · exact ⟨7, h, rfl⟩
            · exact ⟨6, h, rfl⟩
          have hdH := Lib.hid hd
          clear hd
          go_upto_region 14 with (go_at_call 7; ((with_reducible refine hcall.out.mono ?_); rintro e w4 hfe; obtain ⟨Aq, cq, rfl, hb4⟩ := fe_inl hfe hdH.out; clear hfe))
          have hb5 := hb4.alloc hb4.size (.cells #[.string ⟨#[]⟩, .slice none 0 0, .int .i64 0, .int .i64 0, .bool false, .int .i64 0, .int .i64 d] 29)
          have hE5 := Lib.hid (hEW.out.on hb5)
          have hb6 := Lib.hid (onB hbxH.out hb5)
          clear hb4 hb5
          go_wp2_with (go_at_call 6; ((with_reducible refine (alive_any _ hE5.out).mono ?_); rintro e w9 ⟨rfl, hb9⟩))
          go_ret
          exact ⟨rfl, onB hb6.out hb9⟩
        | true =>
          obtain ⟨hrA, hrB⟩ := rights hrb2.out.symm
          have hbd : ∀ a ∈ txt ss, a.length ≤ B ∧ a.length ≤ 4611686018427387904 := by
            intro a ha
            refine ⟨?_, hlmH.out.2 a ha⟩
            simp only [txt, List.mem_map] at ha
            obtain ⟨x, hx, rfl⟩ := ha
            have h1 := hrB x hx
            have e : x.data.toList.length = x.size := size_len x
            omega
          have hrA' : (txt ss).length ≤ A := by simp [txt]; exact hrA
          obtain ⟨y, hy⟩ := put_cut (A := A) (B := B) (L := L) (txt ss) K (by rw [hPlH.out]; exact hK) hrA' hlmH.out.1 hbd
          have hyH := Lib.hid hy
          have hbdH := Lib.hid hbd
          have e0 : feedF A B L (Inp.none []) = (.inr (Inp.none []), []) := feed_stop rfl
          have e0H := Lib.hid e0
          clear hy hbd e0 hrB
          by_cases hne : ss = []
          · have hls : ss.length = 0 := by rw [hne]; rfl
            have hR1 : Hid (feedF A B L (Inp.none (putF (txt ss))) = (.inr (Inp.none []), [])) := Lib.hid (by
              rw [hne, ← e0H.out]
              have h := put_none (A := A) (B := B) (L := L) []
              rw [List.append_nil] at h
              exact h)
            have hz0 : ((ss.length : Int) == 0) = true := by rw [hls]; rfl
            have hz1 : ¬ 0 < ss.length := by omega
            have hlsH := Lib.hid hls
            clear hls hne
            go_upto_region 14 with (go_at_call 7; ((with_reducible refine hcall.out.mono ?_); rintro e w4 hfe; rw [hR1.out] at hfe; obtain ⟨q, Aq, cq, rfl, hb4, hq, hrq⟩ := fe_inr hfe rfl; clear hfe; obtain rfl : q = [] := by simpa using hq))
            have hn4 := heap_alloc_new w4 (.cells #[.string ⟨#[]⟩, .slice none 0 0, .int .i64 0, .int .i64 0, .bool false, .int .i64 0, .int .i64 0] 29)
            obtain ⟨i0, i1, i2, i3, i4, i5, i6, j0, j1, j2, j3, j4, j5, j6⟩ := in_facts hn4
            have hb5 := hb4.alloc hb4.size (.cells #[.string ⟨#[]⟩, .slice none 0 0, .int .i64 0, .int .i64 0, .bool false, .int .i64 0, .int .i64 0] 29)
            have hb5H := Lib.hid hb5
            clear hq hrq hn4 hb5 hb4
            go_upto_region 18 with (go_at_call 13; ((with_reducible refine (idle_yes _).mono ?_); rintro e wI ⟨rfl, hbI⟩))
            have hbn := onB hb5H.out hbI
            have hKd := hKdH.out
            have hy := hyH.out
            have hKe := hKeH.out
            have hw1 : IntKind.u64.wrap (P.size : Int) = (P.size : Int) := IntWalk.u64_in _ (by omega)
            have hnz : ¬ (P.size : Int) = 0 := by omega
            have hKe2 : IntKind.i64.wrap ((IntKind.u64.wrap at_).tmod (P.size : Int)) = (K : Int) := by rw [IntWalk.i64_left]; exact hKe
            have hKle : K ≤ P.size := by omega
            have hnz2 : ¬ P.size = 0 := by omega
            have hnz3 : ¬ IntKind.u64.wrap (P.size : Int) = 0 := by rw [hw1]; omega
            have hnz4 : P ≠ ByteArray.empty := fun e => by rw [e] at hPpos; exact absurd hPpos (by decide)
            clear i0 i1 i2 i3 i4 i5 i6 j0 j1 j2 j3 j4 j5 j6 hbI l0 l1 l2 v0 v1 v2
            generalize hWn : wI = Wn at hbn ⊢
            clear hWn
            have hFn : Hid (∀ W', ErrAt W' → Calls Tryz.prog 7 #[.agg #[.string ⟨#[]⟩, .slice none 0 0, .int .i64 0, .int .i64 0, .bool false, .int .i64 0, .int .i64 0], .string (P.extract 0 K), .agg #[.int .i64 la, .int .i64 lb, .int .i64 ll]] W' (FeedEnd W' A ((MI.none ⟨#[]⟩).size + (MI.none ⟨#[]⟩).rest.size + (P.extract 0 K).size) (.inr y, []))) := Lib.hid (by
              intro W' hE'
              have h := feed_any (MI.none ⟨#[]⟩) none 0 (P.extract 0 K) la lb ll A B L W' hAH hBH hLH hA2 hB2 hL2 (none_ok _) (by show 0 + 0 + (P.extract 0 K).size ≤ 1000000; simp; omega) ⟨fun _ => ⟨rfl, rfl⟩, fun i x hx => by simp [MI.none] at hx⟩ hE' hE'
              rw [none_add, hKd, hy] at h
              exact h)
            clear hKd hy
            have hEn := Lib.hid (hEW.out.on hbn)
            have hln := (hbn.block w.heap.size hlt2).trans hl6H.out
            obtain ⟨l0, l1, l2⟩ := lim_facts hln
            have hltn : w.heap.size < Wn.heap.size := Nat.lt_of_lt_of_le hlt2 hbn.size
            have hED : Hid (ErrAt Wn.drew) := Lib.hid (hEn.out.on (Below.drew (Below.refl _ _)))
            have hEA : Hid (∀ o, ErrAt ((Wn.alloc o).drew)) := Lib.hid fun o => hEn.out.on (Below.drew ((Below.refl _ _).alloc (Nat.le_refl _) o))
            have hD0 := Lib.hid (Below.drew (Below.refl Wn.heap.size Wn))
            have hDA : Hid (∀ o, Below Wn.heap.size Wn ((Wn.alloc o).drew)) := Lib.hid fun o => Below.drew ((Below.refl _ _).alloc (Nat.le_refl _) o)
            have hbnH := Lib.hid (onB hbxH.out hbn)
            clear hln hbn
            go_cut [15, 16, 17] from 101 to 117 (fun s15 s16 s17 wx => ∃ (g : Nat) (A' : Option Addr) (c' : Nat), s15 = .pointer (some ⟨g, 0, none⟩) ∧ s16 = .slice A' 0 c' ∧ s17 = .int .i64 0 ∧ wx.cell? ⟨g, 6, none⟩ = some (.int .i64 0) ∧ Below Wn.heap.size Wn wx)
            case first =>
              go_region_with ((go_at_call 7; ((with_reducible refine (hFn.out _ (by first | with_reducible exact hED.out | with_reducible exact hEA.out _)).mono ?_); rintro e wm hfe; obtain ⟨my, am, cm, Aq9, cq9, rfl, hbm⟩ := fe_part hfe; clear hfe; have hbX : Below Wn.heap.size Wn wm := (by first | with_reducible exact onB hD0.out hbm | with_reducible exact onB (hDA.out _) hbm); first | ((with_reducible have hq := z7 hbm); obtain ⟨i0, i1, i2, i3, i4, i5, i6, j0, j1, j2, j3, j4, j5, j6⟩ := in_facts hq) | skip)))
              all_goals go_wp2_with fail
              all_goals go_meet
              all_goals first
                | with_reducible exact cut_new hbX
                | with_reducible exact cut_old hbX hq (Nat.le_refl _)
            case rest =>
              obtain ⟨g9, A9, c9, rfl, rfl, rfl, hc6, hbc⟩ := hcut
              go_wp2_with (go_at_call 6; ((with_reducible refine (alive_any _ (hEn.out.on hbc)).mono ?_); rintro e w9 ⟨rfl, hb9⟩))
              go_ret
              exact ⟨rfl, onB (onB hbnH.out hbc) hb9⟩
          · have hne2 : txt ss ≠ [] := fun h => hne (by simpa [txt] using h)
            have hpos : 0 < ss.length := List.length_pos_iff.2 hne
            have hR1 : Hid (feedF A B L (Inp.none (putF (txt ss))) = (.inr (Inp.none []), [(ss, P.size)].map rq)) := Lib.hid (by
              have h := put_ok (A := A) (B := B) (L := L) (txt ss) [] hne2 hrA' hlmH.out.1 hbdH.out
              rw [List.append_nil, e0H.out, hPlH.out] at h
              exact h)
            have hz0 : ((ss.length : Int) == 0) = false := beq_eq_false_iff_ne.2 (by omega)
            have hneH := Lib.hid hne
            clear hne hne2
            go_upto_region 14 with (go_at_call 7; ((with_reducible refine hcall.out.mono ?_); rintro e w4 hfe; rw [hR1.out] at hfe; obtain ⟨q, Aq, cq, rfl, hb4, hq, hrq⟩ := fe_inr hfe rfl; clear hfe; obtain rfl : q = [(ss, P.size)] := rqs_inj hq))
            have hn4 := heap_alloc_new w4 (.cells #[.string ⟨#[]⟩, .slice none 0 0, .int .i64 0, .int .i64 0, .bool false, .int .i64 0, .int .i64 0] 29)
            obtain ⟨i0, i1, i2, i3, i4, i5, i6, j0, j1, j2, j3, j4, j5, j6⟩ := in_facts hn4
            have hb5 := hb4.alloc hb4.size (.cells #[.string ⟨#[]⟩, .slice none 0 0, .int .i64 0, .int .i64 0, .bool false, .int .i64 0, .int .i64 0] 29)
            have hrq5 := Lib.hid (hrq.on ((Below.refl _ _).alloc (Nat.le_refl _) (.cells #[.string ⟨#[]⟩, .slice none 0 0, .int .i64 0, .int .i64 0, .bool false, .int .i64 0, .int .i64 0] 29)))
            have hA5 := Lib.hid (hrW.out.on hb5)
            have hb5H := Lib.hid hb5
            have hSm : Hid (∀ W b, Rqs W Tr Aq [(ss, P.size)] → Rqs W Tr (some ⟨b, 0, none⟩) [(ss, P.size)] → Calls Tryz.prog 10 #[.slice Aq 1 cq, .slice (some ⟨b, 0, none⟩) 1 1] W fun e w' => e = .returned (.bool true) ∧ ∃ n, w' = W.drewN n) := Lib.hid fun W b h1 h2 => rsame_any Aq (some ⟨b, 0, none⟩) cq 1 [(ss, P.size)] W (by simp) h1 h2 (fun p hp => by rw [List.mem_singleton.1 hp]; show ss.length ≤ _; omega)
            clear hq hrq hn4 hb5 hb4
            go_upto_region 18 with (first
              | (go_at_call 13; ((with_reducible refine (idle_yes _).mono ?_); rintro e wI ⟨rfl, hbI⟩; have hrqI := Lib.hid (hrq5.out.on hbI); have hAI := Lib.hid (hA5.out.on hbI); have hbIH := Lib.hid (onB hb5H.out hbI); clear hbI))
              | (go_at_call 10; ((with_reducible refine (hSm.out _ _ (hrqI.out.on ((Below.refl _ _).alloc (Nat.le_refl _) _)) (one_rqs (heap_alloc_new _ _) (hAI.out.on ((Below.refl _ _).alloc (Nat.le_refl _) _)) hneH.out)).mono ?_); rintro e wS ⟨rfl, nS, hwS⟩; have hwSH := Lib.hid hwS; clear hwS)))
            have hbn : Below W2.heap.size W2 wS := by rw [hwSH.out]; exact below_drewN (hbIH.out.alloc hbIH.out.size _) nS
            have hKd := hKdH.out
            have hy := hyH.out
            have hKe := hKeH.out
            have hw1 : IntKind.u64.wrap (P.size : Int) = (P.size : Int) := IntWalk.u64_in _ (by omega)
            have hnz : ¬ (P.size : Int) = 0 := by omega
            have hKe2 : IntKind.i64.wrap ((IntKind.u64.wrap at_).tmod (P.size : Int)) = (K : Int) := by rw [IntWalk.i64_left]; exact hKe
            have hKle : K ≤ P.size := by omega
            have hnz2 : ¬ P.size = 0 := by omega
            have hnz3 : ¬ IntKind.u64.wrap (P.size : Int) = 0 := by rw [hw1]; omega
            have hnz4 : P ≠ ByteArray.empty := fun e => by rw [e] at hPpos; exact absurd hPpos (by decide)
            clear i0 i1 i2 i3 i4 i5 i6 j0 j1 j2 j3 j4 j5 j6 l0 l1 l2 v0 v1 v2 hwSH
            generalize hWn : wS = Wn at hbn ⊢
            clear hWn
            have hFn : Hid (∀ W', ErrAt W' → Calls Tryz.prog 7 #[.agg #[.string ⟨#[]⟩, .slice none 0 0, .int .i64 0, .int .i64 0, .bool false, .int .i64 0, .int .i64 0], .string (P.extract 0 K), .agg #[.int .i64 la, .int .i64 lb, .int .i64 ll]] W' (FeedEnd W' A ((MI.none ⟨#[]⟩).size + (MI.none ⟨#[]⟩).rest.size + (P.extract 0 K).size) (.inr y, []))) := Lib.hid (by
              intro W' hE'
              have h := feed_any (MI.none ⟨#[]⟩) none 0 (P.extract 0 K) la lb ll A B L W' hAH hBH hLH hA2 hB2 hL2 (none_ok _) (by show 0 + 0 + (P.extract 0 K).size ≤ 1000000; simp; omega) ⟨fun _ => ⟨rfl, rfl⟩, fun i x hx => by simp [MI.none] at hx⟩ hE' hE'
              rw [none_add, hKd, hy] at h
              exact h)
            clear hKd hy
            have hEn := Lib.hid (hEW.out.on hbn)
            have hln := (hbn.block w.heap.size hlt2).trans hl6H.out
            obtain ⟨l0, l1, l2⟩ := lim_facts hln
            have hltn : w.heap.size < Wn.heap.size := Nat.lt_of_lt_of_le hlt2 hbn.size
            have hED : Hid (ErrAt Wn.drew) := Lib.hid (hEn.out.on (Below.drew (Below.refl _ _)))
            have hEA : Hid (∀ o, ErrAt ((Wn.alloc o).drew)) := Lib.hid fun o => hEn.out.on (Below.drew ((Below.refl _ _).alloc (Nat.le_refl _) o))
            have hD0 := Lib.hid (Below.drew (Below.refl Wn.heap.size Wn))
            have hDA : Hid (∀ o, Below Wn.heap.size Wn ((Wn.alloc o).drew)) := Lib.hid fun o => Below.drew ((Below.refl _ _).alloc (Nat.le_refl _) o)
            have hbnH := Lib.hid (onB hbxH.out hbn)
            clear hln hbn
            go_cut [15, 16, 17] from 101 to 117 (fun s15 s16 s17 wx => ∃ (g : Nat) (A' : Option Addr) (c' : Nat), s15 = .pointer (some ⟨g, 0, none⟩) ∧ s16 = .slice A' 0 c' ∧ s17 = .int .i64 0 ∧ wx.cell? ⟨g, 6, none⟩ = some (.int .i64 0) ∧ Below Wn.heap.size Wn wx)
            case first =>
              go_region_with ((go_at_call 7; ((with_reducible refine (hFn.out _ (by first | with_reducible exact hED.out | with_reducible exact hEA.out _)).mono ?_); rintro e wm hfe; obtain ⟨my, am, cm, Aq9, cq9, rfl, hbm⟩ := fe_part hfe; clear hfe; have hbX : Below Wn.heap.size Wn wm := (by first | with_reducible exact onB hD0.out hbm | with_reducible exact onB (hDA.out _) hbm); first | ((with_reducible have hq := z7 hbm); obtain ⟨i0, i1, i2, i3, i4, i5, i6, j0, j1, j2, j3, j4, j5, j6⟩ := in_facts hq) | skip)))
              all_goals go_wp2_with fail
              all_goals go_meet
              all_goals first
                | with_reducible exact cut_new hbX
                | with_reducible exact cut_old hbX hq (Nat.le_refl _)
            case rest =>
              obtain ⟨g9, A9, c9, rfl, rfl, rfl, hc6, hbc⟩ := hcut
              go_wp2_with (go_at_call 6; ((with_reducible refine (alive_any _ (hEn.out.on hbc)).mono ?_); rintro e w9 ⟨rfl, hb9⟩))
              go_ret
              exact ⟨rfl, onB (onB hbnH.out hbc) hb9⟩
end Go.Proofs.YtjcicbkjngpcoaaGreatDoor
