/-
  The document's answer: Due. Premises: a row of keys with times of one's own, in order.
-/
import Derived.Test.YtbaghdfalhlhcaaR
import Derived.Test.YtbaghdfalhlhcaaO
namespace Go.Proofs.Ytbaghdfalhlhcaa
open Go.RowKit

/-- The row that is left, and the texts that are told. -/
structure Rd (w W : World) (B k : Nat) (v u : Value) (L : List Sc) : Prop where
  row : RowS W B v (L.drop k)
  out : RowT W w.heap.size u ((L.take k).map Prod.fst)
  ap : ∀ q, u.ownBlock = some q → v.ownBlock ≠ some q
  only : Only [] w W
set_option maxHeartbeats 16000000 in
theorem rdue_any {w : World} {B : Nat} {v : Value} {L : List Sc} (h : RowS w B v L) (hB : B ≤ w.heap.size) (hn : L.length ≤ 1000000) (hr : Rises L) (now : Int) :
    Calls Try.prog 14 #[v, .int .i64 now] w fun e w' => ∃ v' u, e = .returned (.tuple #[v', u]) ∧ Rd w w' B (dueN L now) v' u L := by
  have hst : Hid (Rd w w B 0 v (.slice none 0 0) L) := Lib.hid ⟨h, rowT_nil _ _, fun q hq => by simp [Value.ownBlock] at hq, Only.refl _ _⟩
  obtain ⟨A, c, hve⟩ := h.len
  obtain ⟨n, hnn⟩ : ∃ n, n = L.length := ⟨_, rfl⟩
  rw [← hnn] at hve
  subst hve
  have hnH := Lib.hid hnn
  have hnb := Lib.hid hn
  have hBH := Lib.hid hB
  have hdl := Lib.hid (dueN_le L now)
  have hds := Lib.hid (fun (i : Nat) (x : Sc) (hx : L[i]? = some x) => due_lt hr (now := now) hx)
  obtain ⟨dn, hdn⟩ : ∃ dn, dn = dueN L now := ⟨_, rfl⟩
  rw [← hdn] at hdl hds ⊢
  clear h hnn hn hB hr hdn
  go_enter Try.func14, Try.ntmps14
  go_wp2_with fail
  go_loopg [0, 6] dn (fun g s0 s6 wr => ∃ (k q : Nat) (A0 A6 : Option Addr) (c0 c6 : Nat), g = dn - k ∧ k ≤ dn ∧ Hid (q = n - k) ∧ s0 = .slice A0 q c0 ∧ s6 = .slice A6 k c6 ∧ Hid (Rd w wr B k (.slice A0 q c0) (.slice A6 k c6) L))
  case atStart => exact ⟨0, n, A, none, c, 0, by omega, by omega, Lib.hid rfl, rfl, rfl, hst⟩
  case round =>
    obtain ⟨k, q, A0, A6, c0, c6, hg, hk, hq, rfl, rfl, hrd⟩ := hrel
    have hqv := hq.out
    have hnv := hnH.out
    have hdv := hdl.out
    by_cases hq0 : q = 0
    · have hk2 : k = dn := by omega
      have hd : decide ((0 : Int) < (q : Int)) = false := decide_eq_false (by omega)
      have hq1 : ¬ 0 < q := by omega
      clear hqv hnv hdv hg
      go_wp2_with fail
      go_ret2
      exact ⟨_, _, rfl, by rw [← hk2]; exact hrd.out⟩
    · have hkl : k < L.length := by omega
      obtain ⟨y, hy⟩ : ∃ y, L[k]? = some y := ⟨_, List.getElem?_eq_getElem hkl⟩
      have hy0 : (L.drop k)[0]? = some y := by rw [List.getElem?_drop, Nat.add_zero]; exact hy
      rcases hrd.out.row.form with ⟨_, hz⟩ | ⟨g1, cap, he, _, _, _, hc⟩
      · rw [hz] at hy0; simp at hy0
      · have hA : A0 = some ⟨g1, 0, none⟩ := by injection he
        clear he
        subst hA
        obtain ⟨d0, d1⟩ := hc 0 y hy0
        simp only [Nat.zero_mul, Nat.zero_add] at d0 d1
        have hix : ∀ w, Sem.run Try.prog (Instr.indexAt 27 (.slice (some ⟨g1, 0, none⟩) q c0) (.int .i64 0)) w = .ok (.pointer (some ⟨g1, 0, none⟩)) w := fun w => run_ixS g1 0 q c0 (by omega) w
        have hd : decide ((0 : Int) < (q : Int)) = true := decide_eq_true (by omega)
        have hq1 : 0 < q := by omega
        have hwl := hds.out k y hy
        have hyH := Lib.hid hy
        have hkH := Lib.hid hkl
        have hgH := Lib.hid hg
        clear hqv hnv hdv hq0 hkl hy hy0 hc hg
        by_cases hkd : k < dn
        · have hle : decide (y.2 ≤ now) = true := decide_eq_true (hwl.1 hkd)
          have hkdH := Lib.hid hkd
          clear hwl hkd
          obtain ⟨ya, ys⟩ := y
          simp only at d0 d1 hle
          have hal := Lib.hid ((Only.refl [] wr).alloc (.cells #[.string ya] 9))
          go_upto_region 4 with (first
            | (at_builtin; refine wpList_append_rowT (o := ⟨some 24, _, _, _, _, _⟩) (by rfl) (.tmp 18) (.tmp 23) (by rfl) w.heap.size wr.heap.size (.slice A6 k c6) (.slice (some ⟨wr.heap.size, 0, none⟩) 1 1) ((L.take k).map Prod.fst) [ya] (by rfl) (by rfl) (hrd.out.out.same hal.out) (rowT_one wr ya (Nat.le_refl _)) (by have := hnb.out; simp; omega) (by have := hrd.out.only.size; have := hal.out.size; omega) ?_; intro v4 w4 hR4 hO4 hv4; have hR4H := Lib.hid hR4; have hO4H := Lib.hid hO4; have hv4H := Lib.hid hv4; clear hR4 hO4 hv4))
          have hkt : (L.take (k + 1)).map Prod.fst = (L.take k).map Prod.fst ++ [ya] := by rw [List.take_add_one, hyH.out]; simp
          have hR5 : Hid (RowT w4 w.heap.size v4 ((L.take (k + 1)).map Prod.fst)) := Lib.hid (by rw [hkt]; exact hR4H.out)
          have hr4 : Hid (RowS w4 B (.slice (some ⟨g1, 0, none⟩) q c0) (L.drop k)) := Lib.hid ((hrd.out.row.none hal.out).only hO4H.out (fun x hx hm => hrd.out.ap x (by simpa using hm) hx))
          have ho4 : Hid (Only [] w w4) := Lib.hid ((only_nil hrd.out.only hal.out).trans hO4H.out (fun x hx => Or.inr ((hrd.out.out.lt x (by simpa using hx)).1)))
          have hdk : (L.drop k).drop 1 = L.drop (k + 1) := by rw [List.drop_drop]
          obtain ⟨T, hT, hsrc⟩ := cut_fromS hr4.out 1 (by rw [List.length_drop]; have := hkH.out; omega) 1 rfl
          rw [hdk] at hsrc
          have hsH := Lib.hid hsrc
          have hvlt := Lib.hid (fun x (hx : v4.ownBlock = some x) => (hR5.out.lt x hx).2)
          obtain ⟨A4, c4, hve4⟩ := hR5.out.len
          have hlen4 : ((L.take (k + 1)).map Prod.fst).length = k + 1 := by rw [List.length_map, List.length_take]; have := hkH.out; omega
          rw [hlen4] at hve4
          subst hve4
          clear hsrc hdk hkt hlen4 d0 d1
          go_wp2_with (first
            | (at_builtin; refine wpList_append_s (o := ⟨some 27, _, _, _, _, _⟩) (by rfl) (.const (.slice none 0 0)) (.tmp 26) (by rfl) w4.heap.size (.slice none 0 0) T [] (L.drop (k + 1)) (by rfl) (by rfl) (rowS_nil _ _) hsH.out (by have := hnb.out; simp; omega) (Nat.le_refl _) ?_; intro v6 w6 hR6 hO6 hv6; have hR6H := Lib.hid (show RowS w6 w4.heap.size v6 (L.drop (k + 1)) from hR6); have hO6H := Lib.hid (show Only [] w4 w6 from hO6); obtain ⟨A7, c7, hve7⟩ := hR6H.out.len; rw [List.length_drop] at hve7; subst hve7; clear hR6 hO6 hv6))
          go_roundg (dn - (k + 1))
          case measure => have := hkdH.out; have := hgH.out; omega
          case rel =>
            have hkn := hkdH.out
            have hB1 := hBH.out
            have hs1 := ho4.out.size
            exact ⟨k + 1, _, A7, A4, c7, c4, rfl, by omega, Lib.hid (by rw [hnH.out]), rfl, rfl, Lib.hid ⟨hR6H.out.base (by omega), hR5.out.same hO6H.out, fun x hx hx2 => by
              have h1 := hvlt.out x hx
              have h2 := (hR6H.out.lt x hx2).1
              omega, only_nil ho4.out hO6H.out⟩⟩
        · have hle : decide (y.2 ≤ now) = false := decide_eq_false (fun e => hkd (hwl.2 e))
          have hk2 : k = dn := by omega
          have hk2H := Lib.hid hk2
          clear hwl hkd hk2
          obtain ⟨ya, ys⟩ := y
          simp only at d0 d1 hle
          go_wp2_with fail
          go_ret2
          exact ⟨_, _, rfl, by rw [← hk2H.out]; exact hrd.out⟩
end Go.Proofs.Ytbaghdfalhlhcaa
