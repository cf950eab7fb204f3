/-
  The walk of Set. Premises: a timer as it lies; fewer than a million keys.
-/
import Derived.Test.YtbaghdfalhlhcaaJ
namespace Go.Proofs.Ytbaghdfalhlhcaa
open Go.RowKit

theorem set_nil (w : World) (k : ByteArray) (t : Int) : Calls Try.prog 10 #[.pointer none, .string k, .int .i64 t] w fun e w' => e = .returned (.bool false) ∧ w = w' := by
  go_enter Try.func10, Try.ntmps10
  go_wp2
  all_goals go_ret
  all_goals exact ⟨rfl, rfl⟩
theorem map_some_nil (m : Nat) (w : World) : Sem.run Try.prog (binOp .eql 51 (.map (some m)) (.map none)) w = .ok (.bool false) w := by rfl
theorem map_none_nil (w : World) : Sem.run Try.prog (binOp .eql 51 (.map none) (.map none)) w = .ok (.bool true) w := by rfl
/-- What lies when a key has come at the end. -/
theorem Tg.pushed {w W : World} {p m n : Nat} {hv hv' : Value} {h : List Sc} {f : ByteArray → Option Nat} (k : Tg w p hv m n h f) (hl : h.length = n) (hfew : n < 1000000) (hnt : NtAll h f) (hh : Hp (el h) h.length) {key : ByteArray} {t : Int} (hkey : key.size ≤ maxLen) (habs : ∀ x ∈ h, x.1 ≠ key)
    (hhead : W.heap[p]? = some (.cells #[hv', .map (some m)] 53 (0, 0))) (hrow : RowS W 0 hv' (h ++ [(key, t)])) (hmap : MapAt W m n f) (ap1 : hv'.ownBlock ≠ some p) (ap3 : hv'.ownBlock ≠ some m) :
    Tg W p hv' m n (h ++ [(key, t)]) f ∧ Nt (h ++ [(key, t)]) f n ∧ Mid (el (h ++ [(key, t)])) (n + 1) n ∧ (h ++ [(key, t)]).length = n + 1 := by
  have hlen : (h ++ [(key, t)]).length = n + 1 := by rw [List.length_append, hl]; rfl
  refine ⟨⟨hhead, hrow, hmap, by omega, ap1, k.ap2, ap3, fun x hx => ?_, by omega, uniq_perm (push_perm (List.Perm.refl h) habs t) (setK_uniq k.uq key t), fun q hq => ?_⟩, fun q y hq hqn => ?_, ?_, hlen⟩
  · rcases List.mem_append.1 hx with hx | hx
    · exact k.keys x hx
    · rw [List.mem_singleton.1 hx]
      exact hkey
  · obtain ⟨x, hx, e⟩ := k.dom q hq
    exact ⟨x, List.mem_append.2 (Or.inl hx), e⟩
  · obtain ⟨hql, _⟩ := List.getElem?_eq_some_iff.1 hq
    rw [List.getElem?_append_left (by omega)] at hq
    exact hnt q y hq
  · have := up_push hh (key, t)
    rw [hl] at this
    exact this.mid
/-- What lies when a key's time is turned at its place. -/
theorem Tg.timed {w W : World} {p m n i : Nat} {hv : Value} {h : List Sc} {f : ByteArray → Option Nat} (k : Tg w p hv m n h f) (hl : h.length = n) (hnt : NtAll h f) (hh : Hp (el h) h.length) {x : Sc} (hx : h[i]? = some x) {t : Int}
    (hhead : W.heap[p]? = some (.cells #[hv, .map (some m)] 53 (0, 0))) (hrow : RowS W 0 hv (h.set i (x.1, t))) (hmap : MapAt W m n f) :
    Tg W p hv m n (h.set i (x.1, t)) f ∧ Nt (h.set i (x.1, t)) f i ∧ Mid (el (h.set i (x.1, t))) n i ∧ (h.set i (x.1, t)).length = n ∧ f (el (h.set i (x.1, t)) i).1 ≠ none := by
  have hil : i < h.length := (List.getElem?_eq_some_iff.1 hx).1
  have hlen : (h.set i (x.1, t)).length = n := by rw [List.length_set, hl]
  have hp := set_perm (List.Perm.refl h) k.uq hx t
  have hfew := k.few
  refine ⟨⟨hhead, hrow, hmap, k.cfew, k.ap1, k.ap2, k.ap3, fun y hy => ?_, by omega, uniq_perm hp (setK_uniq k.uq _ _), fun q hq => ?_⟩, fun q y hq hqn => ?_, ?_, hlen, ?_⟩
  · rcases mem_setK.1 (hp.mem_iff.1 hy) with rfl | ⟨hy, _⟩
    · exact k.keys x (List.mem_of_getElem? hx)
    · exact k.keys y hy
  · obtain ⟨y, hy, e⟩ := k.dom q hq
    by_cases hyx : y.1 = x.1
    · exact ⟨(x.1, t), hp.mem_iff.2 (mem_setK.2 (Or.inl rfl)), hyx.symm.trans e⟩
    · exact ⟨y, hp.mem_iff.2 (mem_setK.2 (Or.inr ⟨hy, hyx⟩)), e⟩
  · rw [List.getElem?_set, if_neg (fun e => hqn e.symm)] at hq
    exact hnt q y hq
  · have := mid_set hh hil (x.1, t)
    rw [hl] at this
    exact this
  · rw [el_set_at hil, hnt i x hx]
    simp
/-- Behind settle. -/
theorem Done.settled {w W w' : World} {p m g cap n : Nat} {O : List Nat} {h' : List Sc} {f' : ByteArray → Option Nat} (hO : Only O w W) (hsub : ∀ b ∈ own p (.slice (some ⟨g, 0, none⟩) n cap) (some m), b ∈ O ∨ w.heap.size ≤ b) (hl : h'.length = n) (k : Tg w' p (.slice (some ⟨g, 0, none⟩) n cap) m n h' f') (na : NtAll h' f') (hp : Hp (el h') n) (ho : Only (own p (.slice (some ⟨g, 0, none⟩) n cap) (some m)) W w') : Done w p O h' w' := by
  subst hl
  exact ⟨_, Or.inr ⟨_, m, f', k, na, hp, rfl⟩, hO.trans ho (fun x hx => hsub x hx), hsub⟩
theorem find_absent {w : World} {p m c : Nat} {hv : Value} {h : List Sc} {f : ByteArray → Option Nat} (k : Tg w p hv m c h f) {key : ByteArray} (hkey : key.size ≤ maxLen) (habs : ∀ x ∈ h, x.1 ≠ key) :
    Calls Try.prog 23 #[.pointer (some ⟨p, 0, none⟩), .string key] w fun e w' => (∃ x : Int, e = .returned (.tuple #[.int .i64 x, .bool false])) ∧ w = w' := by
  obtain ⟨x, hx, _⟩ := k.map.look key hkey
  have hf : (f key).isSome = false := by
    cases hq : f key with
    | none => rfl
    | some i =>
      obtain ⟨y, hy, e⟩ := k.dom key (by rw [hq]; simp)
      exact absurd e (habs y hy)
  rw [hf] at hx
  exact (find_run k.head hx).mono fun _ _ ⟨he, hw⟩ => ⟨⟨_, he⟩, hw⟩
set_option maxHeartbeats 16000000 in
theorem set_new {w : World} {p m n : Nat} {hv : Value} {h : List Sc} {f : ByteArray → Option Nat} (hk : Hid (Tg w p hv m n h f)) (hl : Hid (h.length = n)) (hfew : Hid (n < 1000000)) (hnt : Hid (NtAll h f)) (hh : Hid (Hp (el h) h.length)) {key : ByteArray} (t : Int) (hkey : Hid (key.size ≤ maxLen)) (habs : Hid (∀ x ∈ h, x.1 ≠ key)) :
    Calls Try.prog 10 #[.pointer (some ⟨p, 0, none⟩), .string key, .int .i64 t] w fun e w' => e = .returned (.bool true) ∧ ∃ h', Done w p (own p hv (some m)) h' w' ∧ h'.Perm (h ++ [(key, t)]) ∧ Hp (el h') h'.length := by
  have cm : w.cell? ⟨p, 1, none⟩ = some (.map (some m)) := Lib.cell_of_heap hk.out.head 1
  have hme := map_some_nil m
  go_enter Try.func10, Try.ntmps10
  go_upto_region 5 with (fail)
  clear cm hme
  have hfind := Lib.hid (find_absent hk.out hkey.out habs.out)
  have hh0 := Lib.hid hk.out.head
  have hr0 := Lib.hid hk.out.row
  obtain ⟨A, c, hve⟩ := hr0.out.len
  have c0 : w.cell? ⟨p, 0, none⟩ = some hv := Lib.cell_of_heap hh0.out 0
  rw [hl.out] at hve
  subst hve
  have hO40 := Lib.hid ((Only.refl [] w).alloc (.cells #[.string key, .int .i64 0] 44))
  have hbnd : (n : Int) ≤ 1000000 := by have := hfew.out; omega
  go_upto_region 8 with (go_at_call 23; ((with_reducible refine (hfind.out).mono ?_); rintro e w' ⟨⟨x0, rfl⟩, rfl⟩))
  have c1 := fun o => cell_past c0 o
  go_upto_region 9 with (first
    | (at_builtin; (refine wpList_append_s (o := ⟨some 41, _, _, _, _, _⟩) (by rfl) (.tmp 37) (.tmp 40) (by rfl) 0 (.slice A n c) (.slice (some ⟨w.heap.size, 0, none⟩) 1 1) h [(key, 0)] (by rfl) (by rfl) (hr0.out.none hO40.out) (rowS_one (key, 0) (Nat.le_refl _)).src (by have := hfew.out; have := hl.out; simp; omega) (Nat.zero_le _) ?_; intro v4 w4 hR4 hO4 hv4; obtain ⟨g4, cap4, hve4⟩ : ∃ g4 cap4, v4 = .slice (some ⟨g4, 0, none⟩) (n + 1) cap4 := (by rcases hR4.form with ⟨_, hz⟩ | ⟨g, cap, he, _⟩; (· simp at hz); (· exact ⟨g, cap, by rw [he, List.length_append, hl.out]; rfl⟩)); subst hve4; have hR4H := Lib.hid hR4; have hO4H := Lib.hid hO4; have hv4H := Lib.hid hv4; have hpn : Hid (p ∉ (Value.slice A n c).ownBlock.toList ∧ m ∉ (Value.slice A n c).ownBlock.toList) := Lib.hid ⟨fun e => hk.out.ap1 (by simpa using e), fun e => hk.out.ap3 (by simpa using e)⟩; have hh4 := Lib.hid (hO4.keep (hO40.out.keep hh0.out (by simp)) hpn.out.1); have d0 : w4.cell? ⟨p, 0, none⟩ = some (.slice A n c) := Lib.cell_of_heap hh4.out 0; have e0 : w4.frozen? ⟨p, 0, none⟩ = false := Joins.unfrozen_of_block hh4.out 0; clear hR4 hO4 hv4)))
  have hm4 := Lib.hid ((hk.out.map.keep hO40.out (by simp)).keep hO4H.out hpn.out.2)
  have hg4 : Hid (g4 ≠ p ∧ g4 ≠ m ∧ (g4 ∈ own p (.slice A n c) (some m) ∨ w.heap.size ≤ g4)) := Lib.hid (by
    have hp1 := hk.out.lt (own_p p (.slice A n c) (some m))
    have hm1 := hk.out.map.lt
    rcases hv4H.out with e | e
    · have e' : (Value.slice A n c).ownBlock = some g4 := e.symm
      exact ⟨fun e2 => hk.out.ap1 (by rw [e', e2]), fun e2 => hk.out.ap3 (by rw [e', e2]), Or.inl (own_r e')⟩
    · have e' : g4 = (w.alloc (.cells #[.string key, .int .i64 0] 44)).heap.size := by injection e
      have := hO40.out.size
      exact ⟨by omega, by omega, Or.inr (by omega)⟩)
  have hO5 : Hid (Only [p] w4 (w4.setCell ⟨p, 0, none⟩ (.slice (some ⟨g4, 0, none⟩) (n + 1) cap4))) := Lib.hid ((Only.refl [p] w4).set (p := ⟨p, 0, none⟩) (Or.inl (by simp)) _)
  have hh5 : Hid ((w4.setCell ⟨p, 0, none⟩ (.slice (some ⟨g4, 0, none⟩) (n + 1) cap4)).heap[p]? = some (.cells #[.slice (some ⟨g4, 0, none⟩) (n + 1) cap4, .map (some m)] 53 (0, 0))) := Lib.hid (Joins.block_setCell (i := 0) hh4.out _)
  have hm5 := Lib.hid (hm4.out.keep hO5.out (fun e => hk.out.ap2 (List.mem_singleton.1 e)))
  have hr5 := Lib.hid (hR4H.out.only hO5.out (fun b hb e => hg4.out.1 ((show g4 = b by injection hb).trans (List.mem_singleton.1 e))))
  clear d0 e0 hh4 hm4 hR4H c0 c1
  generalize w4.setCell ⟨p, 0, none⟩ (.slice (some ⟨g4, 0, none⟩) (n + 1) cap4) = w5 at *
  have d0 : w5.cell? ⟨p, 0, none⟩ = some (.slice (some ⟨g4, 0, none⟩) (n + 1) cap4) := Lib.cell_of_heap hh5.out 0
  obtain ⟨r1, r2, r3, C, hb5, r4, hC5⟩ := rowS_block hr5.out
  have hlast : (h ++ [(key, 0)])[n]? = some ((key, 0) : Sc) := by rw [List.getElem?_append_right (by rw [hl.out]; exact Nat.le_refl _), hl.out, Nat.sub_self]; rfl
  have e1 : w5.cell? ⟨g4, n * 2 + 1, none⟩ = some (.int .i64 0) := by rw [Joins.cell_of_block hb5]; exact (hC5 n _ hlast).2
  have e2 : w5.frozen? ⟨g4, n * 2 + 1, none⟩ = false := Joins.unfrozen_of_block hb5 _
  have hix := run_ixS g4 n (n + 1) cap4 (by omega)
  have hr6 : Hid (RowS (w5.setCell ⟨g4, n * 2 + 1, none⟩ (.int .i64 t)) 0 (.slice (some ⟨g4, 0, none⟩) (n + 1) cap4) (h ++ [(key, t)])) := Lib.hid (by
    have hl1 : (h ++ [((key, 0) : Sc)]).length = n + 1 := by rw [List.length_append, hl.out]; rfl
    have h1 := hr5.out
    rw [← hl1] at h1 ⊢
    have := rowS_time h1 hlast t
    rw [List.set_append_right _ _ (by rw [hl.out]; exact Nat.le_refl _), hl.out, Nat.sub_self] at this
    exact this)
  clear hlast hC5 hb5 r1 r2 r3 r4
  have hlt9 : (n : Int) < ((n + 1 : Nat) : Int) := by omega
  go_upto_region 10 with (fail)
  have hO6 : Hid (Only [g4] w5 (w5.setCell ⟨g4, n * 2 + 1, none⟩ (.int .i64 t))) := Lib.hid ((Only.refl [g4] w5).set (p := ⟨g4, n * 2 + 1, none⟩) (Or.inl (by simp)) _)
  generalize w5.setCell ⟨g4, n * 2 + 1, none⟩ (.int .i64 t) = w6 at *
  clear d0 e1 e2 hix
  obtain ⟨k6, nt6, mid6, len6⟩ := hk.out.pushed hl.out hfew.out hnt.out hh.out hkey.out habs.out (hO6.out.keep hh5.out (fun e => hg4.out.1 (List.mem_singleton.1 e).symm)) hr6.out (hm5.out.keep hO6.out (fun e => hg4.out.2.1 (List.mem_singleton.1 e).symm)) (fun e => hg4.out.1 (by injection e)) (fun e => hg4.out.2.1 (by injection e))
  have hset := Lib.hid (settle_any (Nat.lt_succ_self n) len6 k6 mid6 nt6 (Or.inr (Nat.le_refl _)))
  have hO7 : Hid (Only (own p (.slice A n c) (some m)) w w6) := Lib.hid (by
    have a1 : Only (own p (.slice A n c) (some m)) w w := (Only.refl (own p (.slice A n c) (some m)) w)
    have a2 := only_nil a1 hO40.out
    have a3 := a2.trans hO4H.out (fun x hx => (fun (x : Nat) (hx : x ∈ own p (.slice A n c) (some m)) => (Or.inl hx : x ∈ own p (.slice A n c) (some m) ∨ w.heap.size ≤ x)) x (own_r (by simpa using hx)))
    have a4 := a3.trans hO5.out (fun x hx => (fun (x : Nat) (hx : x ∈ own p (.slice A n c) (some m)) => (Or.inl hx : x ∈ own p (.slice A n c) (some m) ∨ w.heap.size ≤ x)) x (by rw [List.mem_singleton.1 hx]; exact own_p _ _ _))
    exact a4.trans hO6.out (fun x hx => by
      rw [List.mem_singleton.1 hx]
      rcases hg4.out.2.2 with e | e
      · exact (fun (x : Nat) (hx : x ∈ own p (.slice A n c) (some m)) => (Or.inl hx : x ∈ own p (.slice A n c) (some m) ∨ w.heap.size ≤ x)) _ e
      · exact Or.inr (Nat.le_trans a1.size e)))
  have hl6 := Lib.hid len6
  clear k6 nt6 mid6 len6
  go_wp2_with (first
    | (go_at_call 24; ((with_reducible refine (hset.out).mono ?_); rintro e w7 ⟨rfl, h7, f7, k7, na7, hp7, pm7, ho7⟩; have k7H := Lib.hid k7; have na7H := Lib.hid na7; have hp7H := Lib.hid hp7; have pm7H := Lib.hid pm7; have ho7H := Lib.hid ho7; clear k7 na7 hp7 pm7 ho7)))
  go_ret
  have hl7 : h7.length = n + 1 := by rw [pm7H.out.length_eq, hl6.out]
  refine ⟨rfl, h7, Done.settled hO7.out (fun b hb => ?_) hl7 k7H.out na7H.out hp7H.out ho7H.out, pm7H.out, by rw [hl7]; exact hp7H.out⟩
  rcases mem_own.1 hb with e0 | hb | e0
  · rw [e0]
    exact (fun (x : Nat) (hx : x ∈ own p (.slice A n c) (some m)) => (Or.inl hx : x ∈ own p (.slice A n c) (some m) ∨ w.heap.size ≤ x)) _ (own_p _ _ _)
  · have hb' : g4 = b := by injection hb
    rw [← hb']
    rcases hg4.out.2.2 with e | e
    · exact (fun (x : Nat) (hx : x ∈ own p (.slice A n c) (some m)) => (Or.inl hx : x ∈ own p (.slice A n c) (some m) ∨ w.heap.size ≤ x)) _ e
    · exact Or.inr (Nat.le_trans ((Only.refl (own p (.slice A n c) (some m)) w)).size e)
  · rw [e0]
    exact (fun (x : Nat) (hx : x ∈ own p (.slice A n c) (some m)) => (Or.inl hx : x ∈ own p (.slice A n c) (some m) ∨ w.heap.size ≤ x)) _ (own_m _ _ _)
set_option maxHeartbeats 16000000 in
theorem set_zero {w : World} {p : Nat} (hp : w.heap[p]? = some (.cells #[.slice none 0 0, .map none] 53 (0, 0))) {key : ByteArray} (t : Int) (hkey : Hid (key.size ≤ maxLen)) :
    Calls Try.prog 10 #[.pointer (some ⟨p, 0, none⟩), .string key, .int .i64 t] w fun e w' => e = .returned (.bool true) ∧ ∃ h', Done w p [p] h' w' ∧ h'.Perm ([] ++ [(key, t)]) ∧ Hp (el h') h'.length := by
  have cm : w.cell? ⟨p, 1, none⟩ = some (.map none) := Lib.cell_of_heap hp 1
  have hme := map_none_nil
  have hmk := run_makeMap (P := Try.prog) 51
  have hp2 := ((Only.refl [] w).alloc (.map #[] 0)).keep hp (by simp)
  have cm2 : (w.alloc (.map #[] 0)).cell? ⟨p, 1, none⟩ = some (.map none) := Lib.cell_of_heap hp2 1
  have fm2 : (w.alloc (.map #[] 0)).frozen? ⟨p, 1, none⟩ = false := Joins.unfrozen_of_block hp2 1
  have hplt := some_lt hp
  have hO2 : Only [p] w ((w.alloc (.map #[] 0)).setCell ⟨p, 1, none⟩ (.map (some w.heap.size))) := (((Only.refl [p] w).alloc (.map #[] 0)).set (p := ⟨p, 1, none⟩) (Or.inl (by simp)) _)
  obtain ⟨h, eh⟩ : ∃ h : List Sc, h = [] := ⟨_, rfl⟩
  obtain ⟨n, en⟩ : ∃ n : Nat, n = 0 := ⟨_, rfl⟩
  obtain ⟨f, ef⟩ : ∃ f : ByteArray → Option Nat, f = fun _ => none := ⟨_, rfl⟩
  obtain ⟨hv, ev⟩ : ∃ hv, hv = Value.slice none 0 0 := ⟨_, rfl⟩
  obtain ⟨m, em⟩ : ∃ m, m = w.heap.size := ⟨_, rfl⟩
  have hk : Hid (Tg ((w.alloc (.map #[] 0)).setCell ⟨p, 1, none⟩ (.map (some w.heap.size))) p hv m n h f) := by
    rw [eh, en, ef, ev, em]
    exact Lib.hid ⟨Joins.block_setCell (i := 1) hp2 _, rowS_nil _ _, map_made.keep ((Only.refl [p] _).set (p := ⟨p, 1, none⟩) (Or.inl (by simp)) _) (fun e => by have := List.mem_singleton.1 e; omega), by omega, by simp [Value.ownBlock], by omega, by simp [Value.ownBlock], by simp, by simp, List.Pairwise.nil, fun q hq => absurd rfl hq⟩
  have hl : Hid (h.length = n) := Lib.hid (by rw [eh, en]; rfl)
  have hfew : Hid (n < 1000000) := Lib.hid (by omega)
  have hnt : Hid (NtAll h f) := Lib.hid (fun q y hq => by rw [eh] at hq; simp at hq)
  have hh : Hid (Hp (el h) h.length) := Lib.hid (fun j _ hj => by rw [eh] at hj; simp at hj)
  have habs : Hid (∀ x ∈ h, x.1 ≠ key) := Lib.hid (by rw [eh]; simp)
  have hO2H := Lib.hid hO2
  have hsub : Hid (∀ b ∈ own p hv (some m), b ∈ [p] ∨ w.heap.size ≤ b) := Lib.hid (fun b hb => by
    rcases mem_own.1 hb with rfl | hb | rfl
    · exact Or.inl (by simp)
    · rw [ev] at hb
      simp [Value.ownBlock] at hb
    · exact Or.inr (by omega))
  suffices hg : Calls Try.prog 10 #[.pointer (some ⟨p, 0, none⟩), .string key, .int .i64 t] w fun e w' => e = .returned (.bool true) ∧ ∃ h', Done w p [p] h' w' ∧ h'.Perm (h ++ [(key, t)]) ∧ Hp (el h') h'.length by
    rw [eh] at hg
    exact hg
  clear hO2 hplt hp hp2 eh en ef ev em
  go_enter Try.func10, Try.ntmps10
  go_upto_region 5 with (fail)
  clear cm cm2 fm2 hmk hme
  generalize (w.alloc (.map #[] 0)).setCell ⟨p, 1, none⟩ (.map (some w.heap.size)) = w2 at *
  have hfind := Lib.hid (find_absent hk.out hkey.out habs.out)
  have hh0 := Lib.hid hk.out.head
  have hr0 := Lib.hid hk.out.row
  obtain ⟨A, c, hve⟩ := hr0.out.len
  have c0 : w2.cell? ⟨p, 0, none⟩ = some hv := Lib.cell_of_heap hh0.out 0
  rw [hl.out] at hve
  subst hve
  have hO40 := Lib.hid ((Only.refl [] w2).alloc (.cells #[.string key, .int .i64 0] 44))
  have hbnd : (n : Int) ≤ 1000000 := by have := hfew.out; omega
  go_upto_region 8 with (go_at_call 23; ((with_reducible refine (hfind.out).mono ?_); rintro e w' ⟨⟨x0, rfl⟩, rfl⟩))
  have c1 := fun o => cell_past c0 o
  go_upto_region 9 with (first
    | (at_builtin; (refine wpList_append_s (o := ⟨some 41, _, _, _, _, _⟩) (by rfl) (.tmp 37) (.tmp 40) (by rfl) 0 (.slice A n c) (.slice (some ⟨w2.heap.size, 0, none⟩) 1 1) h [(key, 0)] (by rfl) (by rfl) (hr0.out.none hO40.out) (rowS_one (key, 0) (Nat.le_refl _)).src (by have := hfew.out; have := hl.out; simp; omega) (Nat.zero_le _) ?_; intro v4 w4 hR4 hO4 hv4; obtain ⟨g4, cap4, hve4⟩ : ∃ g4 cap4, v4 = .slice (some ⟨g4, 0, none⟩) (n + 1) cap4 := (by rcases hR4.form with ⟨_, hz⟩ | ⟨g, cap, he, _⟩; (· simp at hz); (· exact ⟨g, cap, by rw [he, List.length_append, hl.out]; rfl⟩)); subst hve4; have hR4H := Lib.hid hR4; have hO4H := Lib.hid hO4; have hv4H := Lib.hid hv4; have hpn : Hid (p ∉ (Value.slice A n c).ownBlock.toList ∧ m ∉ (Value.slice A n c).ownBlock.toList) := Lib.hid ⟨fun e => hk.out.ap1 (by simpa using e), fun e => hk.out.ap3 (by simpa using e)⟩; have hh4 := Lib.hid (hO4.keep (hO40.out.keep hh0.out (by simp)) hpn.out.1); have d0 : w4.cell? ⟨p, 0, none⟩ = some (.slice A n c) := Lib.cell_of_heap hh4.out 0; have e0 : w4.frozen? ⟨p, 0, none⟩ = false := Joins.unfrozen_of_block hh4.out 0; clear hR4 hO4 hv4)))
  have hm4 := Lib.hid ((hk.out.map.keep hO40.out (by simp)).keep hO4H.out hpn.out.2)
  have hg4 : Hid (g4 ≠ p ∧ g4 ≠ m ∧ (g4 ∈ own p (.slice A n c) (some m) ∨ w2.heap.size ≤ g4)) := Lib.hid (by
    have hp1 := hk.out.lt (own_p p (.slice A n c) (some m))
    have hm1 := hk.out.map.lt
    rcases hv4H.out with e | e
    · have e' : (Value.slice A n c).ownBlock = some g4 := e.symm
      exact ⟨fun e2 => hk.out.ap1 (by rw [e', e2]), fun e2 => hk.out.ap3 (by rw [e', e2]), Or.inl (own_r e')⟩
    · have e' : g4 = (w2.alloc (.cells #[.string key, .int .i64 0] 44)).heap.size := by injection e
      have := hO40.out.size
      exact ⟨by omega, by omega, Or.inr (by omega)⟩)
  have hO5 : Hid (Only [p] w4 (w4.setCell ⟨p, 0, none⟩ (.slice (some ⟨g4, 0, none⟩) (n + 1) cap4))) := Lib.hid ((Only.refl [p] w4).set (p := ⟨p, 0, none⟩) (Or.inl (by simp)) _)
  have hh5 : Hid ((w4.setCell ⟨p, 0, none⟩ (.slice (some ⟨g4, 0, none⟩) (n + 1) cap4)).heap[p]? = some (.cells #[.slice (some ⟨g4, 0, none⟩) (n + 1) cap4, .map (some m)] 53 (0, 0))) := Lib.hid (Joins.block_setCell (i := 0) hh4.out _)
  have hm5 := Lib.hid (hm4.out.keep hO5.out (fun e => hk.out.ap2 (List.mem_singleton.1 e)))
  have hr5 := Lib.hid (hR4H.out.only hO5.out (fun b hb e => hg4.out.1 ((show g4 = b by injection hb).trans (List.mem_singleton.1 e))))
  clear d0 e0 hh4 hm4 hR4H c0 c1
  generalize w4.setCell ⟨p, 0, none⟩ (.slice (some ⟨g4, 0, none⟩) (n + 1) cap4) = w5 at *
  have d0 : w5.cell? ⟨p, 0, none⟩ = some (.slice (some ⟨g4, 0, none⟩) (n + 1) cap4) := Lib.cell_of_heap hh5.out 0
  obtain ⟨r1, r2, r3, C, hb5, r4, hC5⟩ := rowS_block hr5.out
  have hlast : (h ++ [(key, 0)])[n]? = some ((key, 0) : Sc) := by rw [List.getElem?_append_right (by rw [hl.out]; exact Nat.le_refl _), hl.out, Nat.sub_self]; rfl
  have e1 : w5.cell? ⟨g4, n * 2 + 1, none⟩ = some (.int .i64 0) := by rw [Joins.cell_of_block hb5]; exact (hC5 n _ hlast).2
  have e2 : w5.frozen? ⟨g4, n * 2 + 1, none⟩ = false := Joins.unfrozen_of_block hb5 _
  have hix := run_ixS g4 n (n + 1) cap4 (by omega)
  have hr6 : Hid (RowS (w5.setCell ⟨g4, n * 2 + 1, none⟩ (.int .i64 t)) 0 (.slice (some ⟨g4, 0, none⟩) (n + 1) cap4) (h ++ [(key, t)])) := Lib.hid (by
    have hl1 : (h ++ [((key, 0) : Sc)]).length = n + 1 := by rw [List.length_append, hl.out]; rfl
    have h1 := hr5.out
    rw [← hl1] at h1 ⊢
    have := rowS_time h1 hlast t
    rw [List.set_append_right _ _ (by rw [hl.out]; exact Nat.le_refl _), hl.out, Nat.sub_self] at this
    exact this)
  clear hlast hC5 hb5 r1 r2 r3 r4
  have hlt9 : (n : Int) < ((n + 1 : Nat) : Int) := by omega
  go_upto_region 10 with (fail)
  have hO6 : Hid (Only [g4] w5 (w5.setCell ⟨g4, n * 2 + 1, none⟩ (.int .i64 t))) := Lib.hid ((Only.refl [g4] w5).set (p := ⟨g4, n * 2 + 1, none⟩) (Or.inl (by simp)) _)
  generalize w5.setCell ⟨g4, n * 2 + 1, none⟩ (.int .i64 t) = w6 at *
  clear d0 e1 e2 hix
  obtain ⟨k6, nt6, mid6, len6⟩ := hk.out.pushed hl.out hfew.out hnt.out hh.out hkey.out habs.out (hO6.out.keep hh5.out (fun e => hg4.out.1 (List.mem_singleton.1 e).symm)) hr6.out (hm5.out.keep hO6.out (fun e => hg4.out.2.1 (List.mem_singleton.1 e).symm)) (fun e => hg4.out.1 (by injection e)) (fun e => hg4.out.2.1 (by injection e))
  have hset := Lib.hid (settle_any (Nat.lt_succ_self n) len6 k6 mid6 nt6 (Or.inr (Nat.le_refl _)))
  have hO7 : Hid (Only [p] w w6) := Lib.hid (by
    have a1 : Only [p] w w2 := hO2H.out
    have a2 := only_nil a1 hO40.out
    have a3 := a2.trans hO4H.out (fun x hx => hsub.out x (own_r (by simpa using hx)))
    have a4 := a3.trans hO5.out (fun x hx => hsub.out x (by rw [List.mem_singleton.1 hx]; exact own_p _ _ _))
    exact a4.trans hO6.out (fun x hx => by
      rw [List.mem_singleton.1 hx]
      rcases hg4.out.2.2 with e | e
      · exact hsub.out _ e
      · exact Or.inr (Nat.le_trans a1.size e)))
  have hl6 := Lib.hid len6
  clear k6 nt6 mid6 len6
  go_wp2_with (first
    | (go_at_call 24; ((with_reducible refine (hset.out).mono ?_); rintro e w7 ⟨rfl, h7, f7, k7, na7, hp7, pm7, ho7⟩; have k7H := Lib.hid k7; have na7H := Lib.hid na7; have hp7H := Lib.hid hp7; have pm7H := Lib.hid pm7; have ho7H := Lib.hid ho7; clear k7 na7 hp7 pm7 ho7)))
  go_ret
  have hl7 : h7.length = n + 1 := by rw [pm7H.out.length_eq, hl6.out]
  refine ⟨rfl, h7, Done.settled hO7.out (fun b hb => ?_) hl7 k7H.out na7H.out hp7H.out ho7H.out, pm7H.out, by rw [hl7]; exact hp7H.out⟩
  rcases mem_own.1 hb with e0 | hb | e0
  · rw [e0]
    exact hsub.out _ (own_p _ _ _)
  · have hb' : g4 = b := by injection hb
    rw [← hb']
    rcases hg4.out.2.2 with e | e
    · exact hsub.out _ e
    · exact Or.inr (Nat.le_trans (hO2H.out).size e)
  · rw [e0]
    exact hsub.out _ (own_m _ _ _)
set_option maxHeartbeats 16000000 in
theorem set_old {w : World} {p m n g cap i : Nat} {h : List Sc} {f : ByteArray → Option Nat} (hk : Tg w p (.slice (some ⟨g, 0, none⟩) n cap) m n h f) (hl : h.length = n) (hnt : NtAll h f) (hh : Hp (el h) h.length) {x : Sc} (hx : h[i]? = some x) (t : Int)
    (hfind : Calls Try.prog 23 #[.pointer (some ⟨p, 0, none⟩), .string x.1] w fun e w' => e = .returned (.tuple #[.int .i64 (i : Int), .bool true]) ∧ w = w') :
    Calls Try.prog 10 #[.pointer (some ⟨p, 0, none⟩), .string x.1, .int .i64 t] w fun e w' => e = .returned (.bool false) ∧ ∃ h', Done w p (own p (.slice (some ⟨g, 0, none⟩) n cap) (some m)) h' w' ∧ h'.Perm (h.set i (x.1, t)) ∧ Hp (el h') h'.length := by
  have hil : i < h.length := (List.getElem?_eq_some_iff.1 hx).1
  have cm : w.cell? ⟨p, 1, none⟩ = some (.map (some m)) := Lib.cell_of_heap hk.head 1
  have hme := map_some_nil m
  have c0 : w.cell? ⟨p, 0, none⟩ = some (.slice (some ⟨g, 0, none⟩) n cap) := Lib.cell_of_heap hk.head 0
  obtain ⟨q1, q2, q3, C, hb, hCs, hC⟩ := rowS_block hk.row
  have e1 : w.cell? ⟨g, i * 2 + 1, none⟩ = some (.int .i64 x.2) := by rw [Joins.cell_of_block hb]; exact (hC i _ hx).2
  have e2 : w.frozen? ⟨g, i * 2 + 1, none⟩ = false := Joins.unfrozen_of_block hb _
  have hix := run_ixS g i n cap (by omega)
  have hr6 : RowS (w.setCell ⟨g, i * 2 + 1, none⟩ (.int .i64 t)) 0 (.slice (some ⟨g, 0, none⟩) n cap) (h.set i (x.1, t)) := by
    have := hk.row
    rw [← hl] at this ⊢
    exact rowS_time this hx t
  have hO6 : Only [g] w (w.setCell ⟨g, i * 2 + 1, none⟩ (.int .i64 t)) := (Only.refl [g] w).set (p := ⟨g, i * 2 + 1, none⟩) (Or.inl (by simp)) _
  obtain ⟨k6, nt6, mid6, len6, hf6⟩ := hk.timed hl hnt hh hx (hO6.keep hk.head (fun e => hk.ap1 (by rw [← List.mem_singleton.1 e] <;> rfl))) hr6 (hk.map.keep hO6 (fun e => hk.ap3 (by rw [List.mem_singleton.1 e]; rfl)))
  have hset := Lib.hid (settle_any (by omega) len6 k6 mid6 nt6 (Or.inl ⟨hf6, Nat.le_refl _⟩))
  have hO7 : Hid (Only (own p (.slice (some ⟨g, 0, none⟩) n cap) (some m)) w (w.setCell ⟨g, i * 2 + 1, none⟩ (.int .i64 t))) := Lib.hid (hO6.mono (fun y hy => by rw [List.mem_singleton.1 hy]; exact own_r rfl))
  have hl6 := Lib.hid len6
  have hlt : (i : Int) < (n : Int) := by omega
  have hfH := Lib.hid hfind
  clear hk hl hnt hh hx hfind hil q1 q2 q3 hb hCs hC hr6 hO6 k6 nt6 mid6 len6 hf6
  obtain ⟨key, xs⟩ := x
  simp only at hset hfH hl6 ⊢
  go_enter Try.func10, Try.ntmps10
  go_wp2_with (first
    | (go_at_call 23; ((with_reducible refine (hfH.out).mono ?_); rintro e w' ⟨rfl, rfl⟩))
    | (go_at_call 24; ((with_reducible refine (hset.out).mono ?_); rintro e w7 ⟨rfl, h7, f7, k7, na7, hp7, pm7, ho7⟩; have k7H := Lib.hid k7; have na7H := Lib.hid na7; have hp7H := Lib.hid hp7; have pm7H := Lib.hid pm7; have ho7H := Lib.hid ho7; clear k7 na7 hp7 pm7 ho7)))
  go_ret
  have hl7 : h7.length = n := by rw [pm7H.out.length_eq, hl6.out]
  exact ⟨rfl, h7, Done.settled hO7.out (fun b hb => Or.inl hb) hl7 k7H.out na7H.out hp7H.out ho7H.out, pm7H.out, by rw [hl7]; exact hp7H.out⟩
/-- Set. -/
theorem set_any {w : World} {p : Nat} {O : List Nat} {h r : List Sc} (hT : Tm w p O h) (hr : HR h r) (hfew : h.length < 1000000) (key : ByteArray) (hkey : key.size ≤ maxLen) (t : Int) :
    Calls Try.prog 10 #[.pointer (some ⟨p, 0, none⟩), .string key, .int .i64 t] w fun e w' => e = .returned (.bool (atK r key).isNone) ∧ ∃ h', Done w p O h' w' ∧ HR h' (setK r key t) := by
  cases hq : atK r key with
  | none =>
    have habs : ∀ x ∈ h, x.1 ≠ key := fun x hx e => (atK_none.1 hq) x (hr.mem.1 hx) e
    rcases hT with ⟨k1, rfl, rfl⟩ | ⟨hv, m, f, k1, k2, k3, rfl⟩
    · exact (set_zero k1 t (Lib.hid hkey)).mono fun _ _ ⟨he, h', h1, h2, h3⟩ => ⟨he, h', h1, hr.after_push habs h2 h3⟩
    · exact (set_new (Lib.hid k1) (Lib.hid rfl) (Lib.hid hfew) (Lib.hid k2) (Lib.hid k3) t (Lib.hid hkey) (Lib.hid habs)).mono fun _ _ ⟨he, h', h1, h2, h3⟩ => ⟨he, h', h1, hr.after_push habs h2 h3⟩
  | some u =>
    have hm := hr.mem.2 (atK_mem hq)
    obtain ⟨i, hi⟩ := List.getElem?_of_mem hm
    have hf := find_some hT hi
    rcases hT with ⟨_, rfl, _⟩ | ⟨hv, m, f, k1, k2, k3, rfl⟩
    · simp at hi
    · rcases k1.row.form with ⟨_, rfl⟩ | ⟨g, cap, rfl, _⟩
      · simp at hi
      · exact (set_old k1 rfl k2 k3 hi t hf).mono fun _ _ ⟨he, h', h1, h2, h3⟩ => ⟨he, h', h1, hr.after_set hi h2 h3⟩
end Go.Proofs.Ytbaghdfalhlhcaa
