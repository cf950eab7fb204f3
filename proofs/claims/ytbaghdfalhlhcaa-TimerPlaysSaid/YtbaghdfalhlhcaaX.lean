/-
  Two timers of the call's own; the law Last: what is told hangs on each key's last time alone.
-/
import Derived.Test.YtbaghdfalhlhcaaV
import Derived.Test.YtbaghdfalhlhcaaU
import Derived.Test.YtbaghdfalhlhcaaP
namespace Go.Proofs.Ytbaghdfalhlhcaa
open Go.RowKit

/-- The call (begun in the world w0) has two timers of its own, of blocks of their own. -/
def Twin (w0 w : World) (pa pb : Nat) (La Lb : List Sc) : Prop := ∃ Oa Ob, Pl w0 w pa Oa La ∧ Pl w0 w pb Ob Lb ∧ ∀ b ∈ Oa, b ∉ Ob
theorem Twin.swap {w0 w : World} {pa pb : Nat} {La Lb : List Sc} (h : Twin w0 w pa pb La Lb) : Twin w0 w pb pa Lb La := by
  obtain ⟨Oa, Ob, h1, h2, h3⟩ := h
  exact ⟨Ob, Oa, h2, h1, fun b hb hm => h3 b hm hb⟩
theorem Twin.most {w0 w : World} {pa pb : Nat} {La Lb : List Sc} (h : Twin w0 w pa pb La Lb) : Only [] w0 w := by obtain ⟨Oa, Ob, h1, _⟩ := h; exact h1.most
theorem Twin.same {w0 w w' : World} {pa pb : Nat} {La Lb : List Sc} (h : Twin w0 w pa pb La Lb) (ho : Only [] w w') : Twin w0 w' pa pb La Lb := by
  obtain ⟨Oa, Ob, h1, h2, h3⟩ := h
  exact ⟨Oa, Ob, h1.same ho, h2.same ho, h3⟩
theorem Twin.set {w0 w : World} {pa pb : Nat} {La Lb : List Sc} (h : Twin w0 w pa pb La Lb) (hl : La.length < 1000000) (key : ByteArray) (hkey : key.size ≤ maxLen) (t : Int) :
    Calls Try.prog 10 #[.pointer (some ⟨pa, 0, none⟩), .string key, .int .i64 t] w fun e w' => (∃ b, e = .returned (.bool b)) ∧ Twin w0 w' pa pb (setK La key t) Lb := by
  obtain ⟨Oa, Ob, h1, h2, h3⟩ := h
  refine (h1.set hl key hkey t).mono ?_
  rintro e w' ⟨rfl, O', k1, m⟩
  refine ⟨⟨_, rfl⟩, O', Ob, k1, h2.keep m.1 (fun b hb hm => h3 b hm hb) (fun b hb => h1.ge hb), fun b hb hm => ?_⟩
  have := h2.lt hm
  rcases m.2 b hb with e | e
  · exact h3 b e hm
  · omega
theorem Twin.setB {w0 w : World} {pa pb : Nat} {La Lb : List Sc} (h : Twin w0 w pa pb La Lb) (hl : Lb.length < 1000000) (key : ByteArray) (hkey : key.size ≤ maxLen) (t : Int) :
    Calls Try.prog 10 #[.pointer (some ⟨pb, 0, none⟩), .string key, .int .i64 t] w fun e w' => (∃ b, e = .returned (.bool b)) ∧ Twin w0 w' pa pb La (setK Lb key t) :=
  (h.swap.set hl key hkey t).mono fun _ _ ⟨he, ht⟩ => ⟨he, ht.swap⟩
theorem Twin.atB {w0 w : World} {pa pb : Nat} {La Lb : List Sc} (h : Twin w0 w pa pb La Lb) (key : ByteArray) (hkey : key.size ≤ maxLen) :
    Calls Try.prog 17 #[.pointer (some ⟨pb, 0, none⟩), .string key] w fun e w' => e = .returned (atV Lb key) ∧ w = w' := by
  obtain ⟨Oa, Ob, h1, h2, h3⟩ := h
  exact h2.at_ key hkey
theorem Twin.allA {w0 w : World} {pa pb : Nat} {La Lb : List Sc} (h : Twin w0 w pa pb La Lb) : Calls Try.prog 22 #[.pointer (some ⟨pa, 0, none⟩)] w fun e w' => ∃ v', e = .returned v' ∧ FreshS w v' La w' := by
  obtain ⟨Oa, Ob, h1, h2, h3⟩ := h
  exact h1.all
theorem Twin.lenA {w0 w : World} {pa pb : Nat} {La Lb : List Sc} (h : Twin w0 w pa pb La Lb) : Calls Try.prog 20 #[.pointer (some ⟨pa, 0, none⟩)] w fun e w' => e = .returned (.int .i64 (La.length : Nat)) ∧ w = w' := by
  obtain ⟨Oa, Ob, h1, h2, h3⟩ := h
  exact h1.len
theorem twin_new {w0 w : World} {pa : Nat} {Oa : List Nat} {La : List Sc} (h : Pl w0 w pa Oa La) : Calls Try.prog 9 #[] w fun e w' => e = .returned (.pointer (some ⟨w.heap.size, 0, none⟩)) ∧ Twin w0 w' pa w.heap.size La [] := by
  refine (pl_new h.most).mono ?_
  rintro e w' ⟨rfl, h1, h2⟩
  refine ⟨rfl, Oa, _, h.same h2, h1, fun b hb hm => ?_⟩
  have := h.lt hb
  have := List.mem_singleton.1 hm
  omega
/-- What the call handed over at a place holds. -/
theorem OpsAt.get {w w' : World} {B : Nat} {a : Addr} {l : List OpT} (h : OpsAt w B (some a) l) (hb : Below B w w') {i : Nat} {x : OpT} (hx : l[i]? = some x) : w'.cell? (a.add (i * 3)) = some (.int .i64 x.1) ∧ w'.cell? ⟨(a.add (i * 3)).block, (a.add (i * 3)).off + 1, none⟩ = some (.string x.2.1) ∧ w'.cell? ⟨(a.add (i * 3)).block, (a.add (i * 3)).off + 2, none⟩ = some (.int .i64 x.2.2) := by
  obtain ⟨a', ha, _, h2, h3, h4⟩ := h.on hb i x hx
  cases ha
  exact ⟨h2, h3, h4⟩
theorem OpsAt.form {w : World} {B : Nat} {A : Option Addr} {l : List OpT} (h : OpsAt w B A l) (hl : 0 < l.length) : ∃ a, A = some a := by
  obtain ⟨a, ha, _⟩ := h 0 _ (List.getElem?_eq_getElem hl)
  exact ⟨a, ha⟩
theorem run_ixO (a : Addr) (k n c : Nat) (hk : k < n) (w : World) : Sem.run Try.prog (Instr.indexAt 22 (.slice (some a) n c) (.int .i64 (k : Int))) w = .ok (.pointer (some (a.add (k * 3)))) w := by
  go_simp
theorem sets_le (l : List Sc) : (sets l).length ≤ l.length :=
  snoc_ind (p := fun l => (sets l).length ≤ l.length) (by simp [sets]) (fun l o h => by
    rw [sets_snoc]
    have := setK_le (sets l) o.1 o.2
    simp
    omega) l
theorem news_le (l : List Sc) : (news l).length ≤ l.length :=
  snoc_ind (p := fun l => (news l).length ≤ l.length) (by simp [news]) (fun l o h => by
    rw [news_snoc]
    have := setK_le (news l) o.1 o.2
    split <;> simp <;> omega) l
theorem take_next {α : Type} {l : List α} {i : Nat} {x : α} (h : l[i]? = some x) : l.take (i + 1) = l.take i ++ [x] := by rw [List.take_add_one, h]; rfl
theorem rsame_self {w : World} {B B' : Nat} {v v' : Value} {L : List Sc} (h : RowS w B v L) (h' : RowS w B' v' L) (hl : L.length ≤ 1000000) :
    Calls Try.prog 21 #[v, v'] w fun r w' => r = .returned (.bool true) ∧ Only [] w w' :=
  (rsame_any h h' hl).mono fun _ _ ⟨he, ho⟩ => ⟨by rw [he, decide_eq_true rfl], ho⟩
set_option maxRecDepth 100000 in
set_option maxHeartbeats 32000000 in
theorem last_any (w : World) (A : Option Addr) (c : Nat) (l : List OpT) (hO : OpsAt w w.heap.size A l) (hsz : ∀ o ∈ l, o.2.1.size ≤ maxLen) (hl : l.length ≤ 140737488355328) :
    Calls Try.prog 5 #[.slice A l.length c] w fun e w' => e = .returned (.bool true) ∧ Below w.heap.size w w' := by
  have hfar := Lib.hid (far_any (c := c) hO hl hsz)
  cases hf : farF l with
  | true =>
    rw [hf] at hfar
    clear hO hsz hl hf
    generalize l.length = n at *
    go_enter Try.func5, Try.ntmps5
    go_wp2_with (first
      | (go_at_call 7; ((with_reducible refine (hfar.out).mono ?_); rintro e w2 ⟨rfl, h2⟩; have h2H := Lib.hid h2; clear h2))
      | (go_at_call 8; ((with_reducible refine (alive_any w2).mono ?_); rintro e w3 ⟨rfl, h3⟩; have h3H := Lib.hid (only_nil h2H.out h3); clear h3)))
    all_goals go_ret
    exact ⟨rfl, h3H.out.below (Nat.le_refl _) (by simp)⟩
  | false =>
    rw [hf] at hfar
    obtain ⟨hn300, hk200⟩ := farF_no hf
    have hkey : Hid (∀ o ∈ l, o.2.1.size ≤ maxLen) := Lib.hid hsz
    have hOH := Lib.hid hO
    obtain ⟨ps, hps⟩ : ∃ ps, ps = l.map Prod.snd := ⟨_, rfl⟩
    have hpsget : Hid (∀ (i : Nat) (o : OpT), l[i]? = some o → ps[i]? = some o.2) := Lib.hid (fun i o ho => by rw [hps, List.getElem?_map, ho]; rfl)
    have hpsl : Hid (ps.length = l.length) := Lib.hid (by rw [hps, List.length_map])
    obtain ⟨n, hnn⟩ : ∃ n, n = l.length := ⟨_, rfl⟩
    have hnH := Lib.hid hnn
    have hn3 := Lib.hid hn300
    rw [← hnn] at hfar ⊢
    have hnew := Lib.hid (fun w2 (h2 : Only [] w w2) => pl_new h2)
    have hnb : n ≤ 300 := by omega
    clear hO hsz hl hf hn300 hk200 hps hnn
    go_enter Try.func5, Try.ntmps5
    go_upto_region 5 with (first
      | (go_at_call 7; ((with_reducible refine (hfar.out).mono ?_); rintro e w2 ⟨rfl, h2⟩; have hnw := Lib.hid (hnew.out w2 h2); clear h2))
      | (go_at_call 9; ((with_reducible refine (hnw.out).mono ?_); rintro e w3 ⟨rfl, h3, _⟩; have hnw2 := Lib.hid (twin_new h3); clear h3))
      | (go_at_call 9; ((with_reducible refine (hnw2.out).mono ?_); rintro e w4 ⟨rfl, h4⟩; have h4H := Lib.hid h4; clear h4)))
    generalize w2.heap.size = pa at *
    generalize w3.heap.size = pb at *
    clear hnw hnw2 hnew hfar
    go_loopw [17] (fun s17 wr => ∃ i : Nat, i ≤ n ∧ s17 = .int .i64 i ∧ Hid (Twin w wr pa pb (sets (ps.take i)) (news (ps.reverse.take i)))) (fun s17 _ => n - (intOf s17).toNat)
    case atStart => exact ⟨0, by omega, rfl, h4H⟩
    case round =>
      obtain ⟨i, hi, rfl, htw⟩ := hrel
      by_cases hil : i < n
      · obtain ⟨y, hy⟩ : ∃ y, l[i]? = some y := ⟨_, List.getElem?_eq_getElem (by have := hnH.out; omega)⟩
        obtain ⟨z, hz⟩ : ∃ z, l[n - 1 - i]? = some z := ⟨_, List.getElem?_eq_getElem (by have := hnH.out; omega)⟩
        obtain ⟨a, rfl⟩ := hOH.out.form (by have := hnH.out; omega)
        obtain ⟨x0, x1, x2⟩ := hOH.out.get (htw.out.most.below (Nat.le_refl _) (by simp)) hy
        have hyk := hkey.out y (List.mem_of_getElem? hy)
        have hzk := hkey.out z (List.mem_of_getElem? hz)
        have hpy := hpsget.out _ _ hy
        have hpz : ps.reverse[i]? = some z.2 := by
          rw [List.getElem?_reverse (by have := hnH.out; have := hpsl.out; omega)]
          have := hpsget.out _ _ hz
          rw [show n = ps.length by have := hnH.out; have := hpsl.out; omega] at this
          exact this
        have hrd := Lib.hid (fun W (h : Only [] w W) => hOH.out.get (h.below (Nat.le_refl _) (by simp)) hz)
        have hS : Hid (∀ W, Twin w W pa pb (sets (ps.take i)) (news (ps.reverse.take i)) → Calls Try.prog 10 #[.pointer (some ⟨pa, 0, none⟩), .string y.2.1, .int .i64 y.2.2] W fun e w' => (∃ b, e = .returned (.bool b)) ∧ Twin w w' pa pb (sets (ps.take (i + 1))) (news (ps.reverse.take i))) := Lib.hid (fun W h => by
          rw [take_next hpy, sets_snoc]
          refine h.set ?_ _ hyk _
          have := sets_le (ps.take i)
          rw [List.length_take] at this
          omega)
        have hN : atK (news (ps.reverse.take i)) z.2.1 = none → news (ps.reverse.take (i + 1)) = setK (news (ps.reverse.take i)) z.2.1 z.2.2 := fun h => by rw [take_next hpz, news_snoc, if_pos h]
        have hM : atK (news (ps.reverse.take i)) z.2.1 ≠ none → news (ps.reverse.take (i + 1)) = news (ps.reverse.take i) := fun h => by rw [take_next hpz, news_snoc, if_neg h]
        have hB : Hid (atK (news (ps.reverse.take i)) z.2.1 = none → ∀ W, Twin w W pa pb (sets (ps.take (i + 1))) (news (ps.reverse.take i)) → Calls Try.prog 10 #[.pointer (some ⟨pb, 0, none⟩), .string z.2.1, .int .i64 z.2.2] W fun e w' => (∃ b, e = .returned (.bool b)) ∧ Twin w w' pa pb (sets (ps.take (i + 1))) (news (ps.reverse.take (i + 1)))) := Lib.hid (fun hn W h => by
          rw [hN hn]
          refine h.setB ?_ _ hzk _
          have := news_le (ps.reverse.take i)
          rw [List.length_take] at this
          omega)
        have hC : Hid (∀ W, Twin w W pa pb (sets (ps.take (i + 1))) (news (ps.reverse.take i)) → Calls Try.prog 17 #[.pointer (some ⟨pb, 0, none⟩), .string z.2.1] W fun e w' => e = .returned (atV (news (ps.reverse.take i)) z.2.1) ∧ W = w') := Lib.hid (fun W h => h.atB _ hzk)
        have hMH := Lib.hid hM
        clear hyk hzk hpy hpz hz hy hN hM
        obtain ⟨kd, ya, ys⟩ := y
        obtain ⟨kz, za, zs⟩ := z
        simp only at x0 x1 x2 hS hB hC hrd hMH
        have hlt : decide ((i : Int) < (n : Int)) = true := decide_eq_true (by omega)
        have hltn : decide (i < n) = true := decide_eq_true hil
        have hwk := wrap_small (x := (i : Int) + 1) (by omega)
        have hwn := wrap_small (x := (n : Int) - 1) (by omega)
        obtain ⟨j, hj⟩ : ∃ j, j = n - 1 - i := ⟨_, rfl⟩
        rw [← hj] at hrd
        have hji : (n : Int) - 1 - (i : Int) = (j : Int) := by omega
        have hjn : j < n := by omega
        have hwj := wrap_small (x := (j : Int)) (by omega)
        have hix := run_ixO a j n c hjn
        have hilH := Lib.hid hil
        have hjH := Lib.hid hj
        clear hj
        cases hat : atK (news (ps.reverse.take i)) za with
        | none =>
          have hBn := Lib.hid (hB.out hat)
          unfold atV at hC
          simp only [hat] at hC
          clear hB hMH hat hkey hOH hpsget
          go_wp2_with (first
            | (go_at_call 10; ((with_reducible refine (hS.out _ (htw.out.same ((Only.refl [] wr).alloc _))).mono ?_); rintro e w5 ⟨⟨b5, rfl⟩, h5⟩; obtain ⟨z0, z1, z2⟩ := hrd.out _ h5.most; have h5H := Lib.hid h5; clear h5))
            | (go_at_call 17; ((with_reducible refine (hC.out _ (h5H.out.same ((Only.refl [] w5).alloc _))).mono ?_); rintro e w' ⟨rfl, rfl⟩))
            | (go_at_call 10; ((with_reducible refine (hBn.out _ (h5H.out.same ((Only.refl [] w5).alloc _))).mono ?_); rintro e w6 ⟨⟨b6, rfl⟩, h6⟩; have h6H := Lib.hid h6; clear h6)))
          go_roundw
          case rel => exact ⟨i + 1, by have := hilH.out; omega, by go_num, h6H⟩
          case measure => have := hilH.out; simp [intOf]; omega
        | some t =>
          have hMn := hMH.out (by rw [hat]; simp)
          unfold atV at hC
          simp only [hat] at hC
          clear hB hMH hat hkey hOH hpsget
          go_wp2_with (first
            | (go_at_call 10; ((with_reducible refine (hS.out _ (htw.out.same ((Only.refl [] wr).alloc _))).mono ?_); rintro e w5 ⟨⟨b5, rfl⟩, h5⟩; obtain ⟨z0, z1, z2⟩ := hrd.out _ h5.most; have h5H := Lib.hid h5; clear h5))
            | (go_at_call 17; ((with_reducible refine (hC.out _ (h5H.out.same ((Only.refl [] w5).alloc _))).mono ?_); rintro e w' ⟨rfl, rfl⟩)))
          go_roundw
          case rel => exact ⟨i + 1, by have := hilH.out; omega, by go_num, Lib.hid (by rw [hMn]; exact h5H.out.same ((Only.refl [] w5).alloc _))⟩
          case measure => have := hilH.out; simp [intOf]; omega
      · have hin : i = n := by omega
        subst hin
        have hT : Twin w wr pa pb (sets ps) (sets ps) := by
          have := htw.out
          rw [List.take_of_length_le (by have := hpsl.out; have := hnH.out; omega), List.take_of_length_le (by have := hpsl.out; have := hnH.out; rw [List.length_reverse]; omega), ← last_alone] at this
          exact this
        have hTl : (sets ps).length ≤ 1000000 := by
          have := sets_le ps
          have := hpsl.out
          have := hnH.out
          omega
        have hTH := Lib.hid hT
        have hTlH := Lib.hid hTl
        generalize sets ps = L at *
        clear htw hT hTl hOH hkey hpsget
        go_wp2_with (first
          | (go_at_call 22; ((with_reducible refine (hTH.out.allA).mono ?_); rintro e w5 ⟨v5, rfl, h5⟩; have h5H := Lib.hid h5; have hT5 := Lib.hid (hTH.out.same h5.2); clear h5))
          | (go_at_call 22; ((with_reducible refine (hT5.out.swap.allA).mono ?_); rintro e w6 ⟨v6, rfl, h6⟩; have hSm := Lib.hid (rsame_self (h5H.out.1.none h6.2) h6.1 hTlH.out); have hT6 := Lib.hid (hT5.out.same h6.2); clear h6))
          | (go_at_call 21; ((with_reducible refine (hSm.out).mono ?_); rintro e w7 ⟨rfl, h7⟩; have hT7 := Lib.hid (hT6.out.same h7); clear h7))
          | (go_at_call 20; ((with_reducible refine (hT7.out.lenA).mono ?_); rintro e w' ⟨rfl, rfl⟩))
          | (go_at_call 20; ((with_reducible refine (hT7.out.swap.lenA).mono ?_); rintro e w' ⟨rfl, rfl⟩))
          | (go_at_call 8; ((with_reducible refine (alive_any _).mono ?_); rintro e w9 ⟨rfl, h9⟩; have h9H := Lib.hid (only_nil hT7.out.most h9); clear h9)))
        all_goals go_ret
        exact ⟨rfl, h9H.out.below (Nat.le_refl _) (by simp)⟩
end Go.Proofs.Ytbaghdfalhlhcaa
