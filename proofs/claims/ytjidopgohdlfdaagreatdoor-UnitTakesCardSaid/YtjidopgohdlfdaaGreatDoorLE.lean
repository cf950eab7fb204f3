/-
  The walk of the reader of what is between quotes. Premises: the text is no longer than 65536 bytes; the library's variable ErrSyntax holds an error, or none.
-/
import Derived.Test.YtjidopgohdlfdaaGreatDoorLC
import Derived.Test.YtjidopgohdlfdaaGreatDoorLD
import Derived.Deep.RegionHeld3
namespace Go.Proofs.YtjidopgohdlfdaaGreatDoor.S4
open Go.RowKit Ln

theorem ErrAt.kept {w w' : World} {B : Nat} (h : ErrAt w) (hB : 7 < B) (hb : Below B w w') : ErrAt w' := by
  obtain ⟨ev, h1, h2⟩ := h
  exact ⟨ev, (hb.cell (p := ⟨7, 0, none⟩) hB).trans h1, h2⟩
/-- What is between quotes, behind what was read of it. -/
def uqL (l : List UInt8) (n : Nat) (R : Option (List UInt8 × Nat)) : Option (List UInt8 × Nat) := R.map fun r => (l ++ r.1, r.2 + n)
def UqEnd (B b : Nat) (l : List UInt8) (R : Option (List UInt8 × Nat)) (w : World) (e : Ending) (w' : World) : Prop := match R with
  | none => e = .returned (.tuple #[.int .i64 0, .bool false]) ∧ Kp B b w w'
  | some r => e = .returned (.tuple #[.int .i64 (r.2 + 1 : Nat), .bool true]) ∧ Lib.IsBuilderF 74 5 B b (Lib.byteCells (l ++ r.1)) w' ∧ Kp B b w w'
theorem uqL_close {q c : UInt8} {l t : List UInt8} {n : Nat} (h : c = q) : uqL l n (uq q 0 (c :: t)) = some (l, n + 1) := by
  rw [uq, if_pos h]; simp [uqL]; omega
theorem uqL_more {q c : UInt8} {l t : List UInt8} {n : Nat} (h : ¬ c = q) : uqL l n (uq q 0 (c :: t)) = uqL (l ++ [(meantF q c t).1]) (n + (meantF q c t).2) (uq q 0 (t.drop ((meantF q c t).2 - 1))) := by
  have hp := meantF_pos q c t
  rw [uq, if_neg h, uq_skip _ _ _ (by omega)]
  unfold uqL
  rw [Option.map_map, Option.map_map]
  congr 1
  funext r
  simp
  omega
theorem cells_snoc (l : List UInt8) (c : UInt8) : Lib.byteCells (l ++ [c]) = Lib.byteCells l ++ [.int .u8 (c.toNat : Int)] := by simp [Lib.byteCells]

theorem onB {w6 a c : World} (h : Below w6.heap.size w6 a) (k : Below a.heap.size a c) : Below w6.heap.size w6 c := h.trans (k.mono h.size)
theorem Bd.below {b B : Nat} {bs : List Value} {W W' : World} (h : Lib.IsBuilderF 74 5 B b bs W) (hb : Below W.heap.size W W') : Lib.IsBuilderF 74 5 B b bs W' := by
  have key : ∀ p, Lib.BuilderAtF 74 5 B b p bs W → Lib.BuilderAtF 74 5 B b p bs W' := by
    rintro p ⟨hB, v, hbk, hown, hne⟩
    have hlt : b < W.heap.size := (Array.getElem?_eq_some_iff.1 hbk).1
    refine ⟨hB, v, (hb.block b hlt).trans hbk, ⟨hown.1, ?_⟩, hne⟩
    rcases hown.2 with hn | ⟨g, cap, cur, fz, hv, hbg, hg, rest⟩
    · exact Or.inl hn
    · exact Or.inr ⟨g, cap, cur, fz, hv, hbg, (hb.block g (Array.getElem?_eq_some_iff.1 hg).1).trans hg, rest⟩
  exact h.elim (fun x => Or.inl (key _ x)) (fun x => Or.inr (key _ x))
theorem bld_drewN {B b : Nat} {bs : List Value} {w : World} (h : Lib.IsBuilderF 74 5 B b bs w) (n : Nat) : Lib.IsBuilderF 74 5 B b bs (w.drewN n) := h
theorem Kp.drewN {B b : Nat} {w w' : World} (h : Kp B b w w') (n : Nat) : Kp B b w (w'.drewN n) := ⟨below_drewN h.1 n, h.2⟩
theorem ErrAt.drewN {w : World} (h : ErrAt w) (n : Nat) : ErrAt (w.drewN n) := h

set_option maxRecDepth 100000 in
set_option maxHeartbeats 4000000 in
theorem unquote_any (B b : Nat) (l : List UInt8) (q : UInt8) (t : List UInt8) (s : ByteArray) (w : World) (hs : s.size ≤ 65536) (hc : s.data.toList = q :: t) (hq : quoteC q = true) (hl : l.length ≤ 65536)
    (hBd : Lib.IsBuilderF 74 5 B b (Lib.byteCells l) w) (hBw : B ≤ w.heap.size) (hE : ErrAt w) (hB3 : 7 < B) :
    Calls Tryz.prog 121 #[.pointer (some ⟨b, 0, none⟩), .string s] w (UqEnd B b l (uq q 0 t) w) := by
  have hlen : s.data.toList.length = s.size := by simp
  have hsz : 1 ≤ s.size := by rw [hc] at hlen; simp at hlen; omega
  have e0 : s[(0 : Nat)] = q := by
    have := str_cons s 0 (by omega)
    rw [List.drop_zero, hc] at this
    injection this with a _
    exact a.symm
  have e0H := Lib.hid e0
  have hd1 : s.data.toList.drop 1 = t := by rw [hc]; rfl
  have hT : Hid (uqL [] 0 (uq q 0 (s.data.toList.drop 1)) = uq q 0 t) := Lib.hid (by rw [hd1]; unfold uqL; simp)
  have hEH := Lib.hid hE
  obtain ⟨T, hTT⟩ : ∃ T, T = uq q 0 t := ⟨_, rfl⟩
  rw [← hTT] at hT ⊢
  clear hlen hc hd1 e0 hE hTT
  go_enter Tryz.func121, Tryz.ntmps121
  go_wp2_with fail
  go_loopw [6] (fun i wr => ∃ (k : Nat) (m : List UInt8), i = .int .i64 k ∧ 1 ≤ k ∧ k ≤ s.size ∧ m.length + 1 ≤ k ∧ Hid (uqL m (k - 1) (uq q 0 (s.data.toList.drop k)) = T) ∧ Lib.IsBuilderF 74 5 B b (Lib.byteCells (l ++ m)) wr ∧ Kp B b w wr) (fun i _ => s.size - (intOf i).toNat)
  case atStart => exact ⟨1, [], rfl, by omega, by omega, by simp, hT, by simpa using hBd, Kp.refl _ _ _⟩
  case round =>
    clear hBd hT
    obtain ⟨k, m, rfl, hk1, hk, hm, hT, hBd, hK⟩ := hrel
    by_cases hlt : k < s.size
    · have hdr := str_cons s k hlt
      by_cases hcq : s[k] = q
      · have hR : Hid (T = some (m, k)) := Lib.hid (by rw [← hT.out, hdr, uqL_close hcq]; congr 2; omega)
        have hx : ((s[k].toNat : Int) == (s[(0 : Nat)].toNat : Int)) = true := by rw [hcq, e0H.out]; simp
        have z0 : 0 < s.size := by omega
        clear hT hdr hcq
        go_wp2_with fail
        go_quiet (fail)
        go_wp2_with fail
        go_ret2
        rw [hR.out]
        exact ⟨rfl, bld_drewN hBd _, Kp.drewN hK _⟩
      · have hp := meantF_pos q s[k] (s.data.toList.drop (k + 1))
        have hdl : (s.data.toList.drop (k + 1)).length = s.size - (k + 1) := by simp
        have hM := fun w' hE' => meant_any q (s.extract k s.size) w' (by unfold maxLen; simp; omega) hE' s[k] (s.data.toList.drop (k + 1)) (by rw [ext_data, hdr]) hq
        have hN : Hid (uqL (m ++ [(meantF q s[k] (s.data.toList.drop (k + 1))).1]) (k + (meantF q s[k] (s.data.toList.drop (k + 1))).2 - 1) (uq q 0 (s.data.toList.drop (k + (meantF q s[k] (s.data.toList.drop (k + 1))).2))) = T) := Lib.hid (by
          rw [← hT.out, hdr, uqL_more hcq, List.drop_drop]
          congr 2
          · omega
          · congr 1; omega)
        obtain ⟨⟨x, n⟩, hr⟩ : ∃ r, r = meantF q s[k] (s.data.toList.drop (k + 1)) := ⟨_, rfl⟩
        rw [← hr] at hp hM hN
        simp only [] at hp hN
        have hx : ((s[k].toNat : Int) == (s[(0 : Nat)].toNat : Int)) = false := beq_eq_false_iff_ne.2 (by
          rw [e0H.out]
          intro h
          exact hcq (UInt8.toNat_inj.1 (by omega)))
        have hM' : Hid (∀ w', ErrAt w' → Calls Tryz.prog 128 #[.int .u8 (s[(0 : Nat)].toNat : Int), .string (s.extract k s.size)] w' (MeantEnd (x, n) w')) := Lib.hid (by
          rw [e0H.out]; exact hM)
        have z0 : 0 < s.size := by omega
        obtain ⟨hp1, hp2⟩ := hp
        clear hT hdr hcq hM hr
        go_wp2_with fail
        go_quiet (fail)
        go_wp2_with fail
        have z1 : 0 ≤ (k : Int) := by omega
        have z2 : (k : Int) ≤ s.size := by omega
        have z3 : ((k : Int)).toNat = k := by omega
        have hBd1 := bld_drewN hBd nq
        have hK1 := Kp.drewN hK nq
        have hE1 : ErrAt (wr.drewN nq) := (hEH.out.kept hB3 hK.1).drewN nq
        have hsz1 : B ≤ (wr.drewN nq).heap.size := Nat.le_trans hBw hK1.size
        clear hBd hK
        generalize wr.drewN nq = W at hBd1 hK1 hE1 hsz1 ⊢
        have hE1H := Lib.hid hE1
        clear hE1
        have hK0 := Lib.hid (Below.drew (Below.refl W.heap.size W))
        have hOn : Hid (∀ a c, Below a.heap.size a c → Below W.heap.size W a → Below W.heap.size W c) := Lib.hid fun a c k h => onB h k
        go_region_held3 (fun w' => Below W.heap.size W w')
          (first | exact hK0.out | exact hOn.out _ _ (by assumption) (by assumption))
          (first
          | (go_at_call 128; ((with_reducible refine (hM'.out _ (hE1H.out.on (by assumption))).mono ?_); rintro e u1 ⟨rfl, b1⟩)))
        have hl1 : Below W.heap.size W u1 := by assumption
        have hBd2 := Bd.below hBd1 hl1
        have hK2 := hK1.trans (Kp.of_below (b := b) hl1 hsz1)
        have hsz2 : B ≤ u1.heap.size := Nat.le_trans hsz1 hl1.size
        have hcell : Lib.byteCells (l ++ m) ++ [.int .u8 (x.toNat : Int)] = Lib.byteCells (l ++ (m ++ [x])) := by rw [← cells_snoc, List.append_assoc]
        have hW := wbyte_any B b _ (x.toNat : Int) u1 hBd2 (by rw [Lib.byteCells_length, List.length_append]; omega) hsz2
        rw [hcell] at hW
        clear hl1 hBd1 hK1 hBd2 hcell hOn hK0 hE1H b1
        go_wp2_with (go_at_call 67; ((with_reducible refine hW.mono ?_); rintro e u2 ⟨rfl, hBd3, hK3⟩))
        go_roundw
        case rel => exact ⟨k + n, m ++ [x], by go_num, by omega, by omega, by simp; omega, hN, hBd3, hK2.trans hK3⟩
        case measure => simp [intOf]; omega
    · have hR : Hid (T = none) := Lib.hid (by rw [← hT.out, List.drop_eq_nil_of_le (by simp; omega), uq]; rfl)
      clear hT
      go_wp2_with fail
      go_ret2
      rw [hR.out]
      exact ⟨rfl, hK⟩
end Go.Proofs.YtjidopgohdlfdaaGreatDoor.S4
