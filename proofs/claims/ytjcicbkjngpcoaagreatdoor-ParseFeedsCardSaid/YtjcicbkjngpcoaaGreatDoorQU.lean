/-
  The walk of what a request's bytes are written with. Premises: what is written takes at most 2^40 bytes; the library's table of powers of ten holds what its initialiser lays.
-/
import Derived.Test.YtjcicbkjngpcoaaGreatDoorQS
import Derived.Test.YtjcicbkjngpcoaaGreatDoorWalksT
namespace Go.Proofs.YtjcicbkjngpcoaaGreatDoor
open Go.RowKit Dec Pq S4

theorem Bd.below {b B : Nat} {bs : List Value} {W W' : World} (h : Lib.IsBuilderF 61 5 B b bs W) (hb : Below W.heap.size W W') : Lib.IsBuilderF 61 5 B b bs W' := by
  have key : ∀ p, Lib.BuilderAtF 61 5 B b p bs W → Lib.BuilderAtF 61 5 B b p bs W' := by
    rintro p ⟨hB, v, hbk, hown, hne⟩
    have hlt : b < W.heap.size := (Array.getElem?_eq_some_iff.1 hbk).1
    refine ⟨hB, v, (hb.block b hlt).trans hbk, ⟨hown.1, ?_⟩, hne⟩
    rcases hown.2 with hn | ⟨g, cap, cur, fz, hv, hbg, hg, rest⟩
    · exact Or.inl hn
    · exact Or.inr ⟨g, cap, cur, fz, hv, hbg, (hb.block g (Array.getElem?_eq_some_iff.1 hg).1).trans hg, rest⟩
  exact h.elim (fun x => Or.inl (key _ x)) (fun x => Or.inr (key _ x))
/-- A builder under way: what it has, and that nothing older has changed. -/
structure BS (w0 : World) (b : Nat) (l : List UInt8) (W : World) : Prop where
  bd : Lib.IsBuilderF 61 5 w0.heap.size b (Lib.byteCells l) W
  bel : Below w0.heap.size w0 W
section
variable {w0 W W' : World} {b : Nat} {l : List UInt8}
theorem BS.on (h : BS w0 b l W) (hb : Below W.heap.size W W') : BS w0 b l W' := ⟨Bd.below h.bd hb, h.bel.trans (hb.mono h.bel.size)⟩
theorem bs_byte (h : BS w0 b l W) (c : Int) (u : UInt8) (hc : (u.toNat : Int) = c) (hlen : l.length + 1 ≤ 1099511627776) : Calls Tryz.prog 37 #[.pointer (some ⟨b, 0, none⟩), .int .u8 c] W fun e w' => e = .returned .nilIface ∧ BS w0 b (l ++ [u]) w' := by
  subst hc
  refine (wbyte_any w0.heap.size b _ (u.toNat : Int) W h.bd (by rw [Lib.byteCells_length]; omega) h.bel.size).mono ?_
  rintro e w' ⟨h1, h2, h3⟩
  refine ⟨h1, ?_, h.bel.trans h3.1⟩
  rw [byteCells_append]
  exact h2
theorem bs_string (h : BS w0 b l W) (s : ByteArray) (hlen : l.length + s.size ≤ 1099511627776) : Calls Tryz.prog 26 #[.pointer (some ⟨b, 0, none⟩), .string s] W fun e w' => e = .returned (.tuple #[.int .i64 s.size, .nilIface]) ∧ BS w0 b (l ++ s.data.toList) w' := by
  refine (wstring_any w0.heap.size b _ s W h.bd (by rw [Lib.byteCells_length]; omega) h.bel.size).mono ?_
  rintro e w' ⟨h1, h2, h3⟩
  refine ⟨h1, ?_, h.bel.trans h3.1⟩
  rw [byteCells_append, ← strCells_bytes]
  exact h2
theorem bs_text (h : BS w0 b l W) (hT : Hid (Tab w0)) (n : Nat) (hn : n ≤ 1099511627776) : Calls Tryz.prog 38 #[.int .i64 n] W fun e w' => e = .returned (.string (dec n)) ∧ BS w0 b l w' :=
  (text_any n W (by omega) (by omega) (Lib.hid (hT.out.on h.bel))).mono fun e w' ⟨h1, h2⟩ => ⟨h1, h.on h2⟩
/-- What a head has. -/
def headB (u : UInt8) (n : Nat) : List UInt8 := u :: (Lib.decDigits n ++ [13, 10])
set_option maxHeartbeats 2000000 in
theorem phead_any (h : BS w0 b l W) (hT : Hid (Tab w0)) (c : Int) (u : UInt8) (hc : (u.toNat : Int) = c) (n : Nat) (hn : n ≤ 1099511627) (hlen : l.length + 40 ≤ 1099511627776) :
    Calls Tryz.prog 25 #[.pointer (some ⟨b, 0, none⟩), .int .u8 c, .int .i64 n] W fun e w' => e = .returned (.tuple #[]) ∧ BS w0 b (l ++ headB u n) w' := by
  have hds := dec_nat_size n (by omega)
  have e1 : l ++ headB u n = l ++ [u] ++ (dec (n : Int)).data.toList ++ (⟨#[13, 10]⟩ : ByteArray).data.toList := by rw [dec_nat]; simp [headB]
  rw [e1]
  have hs1 : (l ++ [u]).length = l.length + 1 := by simp
  have hs2 : (l ++ [u] ++ (dec (n : Int)).data.toList).length = l.length + 1 + (dec (n : Int)).size := by rw [List.length_append, hs1, size_len]
  have c1 := Lib.hid (bs_byte h c u hc (by omega))
  have c2 : Hid (∀ W, BS w0 b (l ++ [u]) W → Calls Tryz.prog 38 #[.int .i64 n] W fun e w' => e = .returned (.string (dec n)) ∧ BS w0 b (l ++ [u]) w') := Lib.hid fun W hB => bs_text hB hT n (by omega)
  have c3 : Hid (∀ W, BS w0 b (l ++ [u]) W → Calls Tryz.prog 26 #[.pointer (some ⟨b, 0, none⟩), .string (dec n)] W fun e w' => e = .returned (.tuple #[.int .i64 (dec (n : Int)).size, .nilIface]) ∧ BS w0 b (l ++ [u] ++ (dec (n : Int)).data.toList) w') := Lib.hid fun W hB => bs_string hB _ (by omega)
  have c4 : Hid (∀ W, BS w0 b (l ++ [u] ++ (dec (n : Int)).data.toList) W → Calls Tryz.prog 26 #[.pointer (some ⟨b, 0, none⟩), .string ⟨#[13, 10]⟩] W fun e w' => e = .returned (.tuple #[.int .i64 2, .nilIface]) ∧ BS w0 b (l ++ [u] ++ (dec (n : Int)).data.toList ++ (⟨#[13, 10]⟩ : ByteArray).data.toList) w') := Lib.hid fun W hB => bs_string hB ⟨#[13, 10]⟩ (by rw [hs2]; show _ + 2 ≤ _; omega)
  clear e1 hs1 hs2 hds h hc hlen
  generalize l ++ [u] ++ (dec (n : Int)).data.toList ++ (⟨#[13, 10]⟩ : ByteArray).data.toList = l3 at c4 ⊢
  generalize l ++ [u] ++ (dec (n : Int)).data.toList = l2 at c3 c4
  generalize l ++ [u] = l1 at c1 c2 c3
  go_enter Tryz.func25, Tryz.ntmps25
  go_wp2_with (first
    | (go_at_call 37; ((with_reducible refine c1.out.mono ?_); rintro e w1 ⟨rfl, h1⟩))
    | (go_at_call 38; ((with_reducible refine (c2.out _ h1).mono ?_); rintro e w2 ⟨rfl, h2⟩))
    | (go_at_call 26; ((with_reducible refine (c4.out _ h3).mono ?_); rintro e w4 ⟨rfl, h4⟩))
    | (go_at_call 26; ((with_reducible refine (c3.out _ h2).mono ?_); rintro e w3 ⟨rfl, h3⟩)))
  go_end0
  exact ⟨rfl, h4⟩
end

/-- What is written of the first so many arguments. -/
theorem putB_step {ss : List ByteArray} {k : Nat} {x : ByteArray} (h : ss[k]? = some x) : putB ss (k + 1) = putB ss k ++ headB 36 x.size ++ x.data.toList ++ (⟨#[13, 10]⟩ : ByteArray).data.toList := by
  rw [putB_next h]
  simp [headB, putA]
theorem putB_zero (ss : List ByteArray) : putB ss 0 = [] ++ headB 42 ss.length := by simp [putB, headB, txt]
theorem putB_len {ss : List ByteArray} {k : Nat} (hk : k ≤ ss.length) (hn : ss.length ≤ 1000) (hsz : sz ss ≤ 100000) : (putB ss k).length ≤ 30 + 30 * k + sz (ss.take k) := by
  induction k with
  | zero =>
    have := dec_nat_size ss.length (by omega)
    have e : (dec (ss.length : Int)).data.toList.length = (dec (ss.length : Int)).size := size_len _
    rw [dec_nat] at e
    rw [putB_zero]
    simp [headB]
    omega
  | succ k ih =>
    obtain ⟨x, hx⟩ : ∃ x, ss[k]? = some x := ⟨_, List.getElem?_eq_getElem (by omega)⟩
    have hi := ih (by omega)
    have hs := sz_next hx
    rw [putB_step hx]
    have hle := sz_take ss (k + 1)
    have := dec_nat_size x.size (by omega)
    have e : (dec (x.size : Int)).data.toList.length = (dec (x.size : Int)).size := size_len _
    rw [dec_nat] at e
    simp only [List.length_append, headB, List.length_cons, size_len, List.length_nil]
    show _ + (_ + (0 + 1 + 1) + 1) + _ + 2 ≤ _
    omega

set_option maxRecDepth 100000 in
set_option maxHeartbeats 4000000 in
theorem put_any (A : Option Addr) (c : Nat) (ss : List ByteArray) (w : World) (hT : Tab w) (hr : SOk w Tr A ss) (hn : ss.length ≤ 1000) (hs : sz ss ≤ 100000) :
    Calls Tryz.prog 14 #[.slice A ss.length c] w fun e w' => e = .returned (.string ⟨(putF (txt ss)).toArray⟩) ∧ Below w.heap.size w w' := by
  have hrH := Lib.hid hr
  have hTH := Lib.hid hT
  have hB0 : BS w w.heap.size [] (w.alloc (.cells #[.pointer none, .slice none 0 0] 61)) := ⟨Lib.IsBuilderF.of (Lib.fresh_isBuilder 61 5 w), (Below.refl _ _).alloc (Nat.le_refl _) _⟩
  have c0 := Lib.hid (phead_any hB0 hTH 42 42 rfl ss.length (by omega) (by simp))
  rw [← putB_zero] at c0
  clear hr hT hB0
  go_enter Tryz.func14, Tryz.ntmps14
  go_wp2_with (go_at_call 25; ((with_reducible refine c0.out.mono ?_); rintro e w1 ⟨rfl, h1⟩))
  have h1H := Lib.hid h1
  clear h1 c0
  go_loopw [11] (fun i wr => ∃ k : Nat, i = .int .i64 k ∧ k ≤ ss.length ∧ Hid (BS w w.heap.size (putB ss k) wr)) (fun i _ => ss.length - (intOf i).toNat)
  case atStart => exact ⟨0, rfl, by omega, h1H⟩
  case round =>
    clear h1H
    obtain ⟨k, rfl, hk, hB⟩ := hrel
    by_cases hlt : k < ss.length
    · obtain ⟨x, hx⟩ : ∃ x, ss[k]? = some x := ⟨_, List.getElem?_eq_getElem hlt⟩
      obtain ⟨a, rfl, _, hal, hc⟩ := hrH.out k x hx
      have hcw : wr.cell? (a.add k) = some (.string x) := (hB.out.bel.cell (p := a.add k) (by rw [block_of_add]; exact hal)).trans hc
      have hl := putB_len hk (by omega) hs
      have hle := sz_take ss k
      have hle2 := sz_take ss (k + 1)
      have hsn := sz_next hx
      have hnx := Lib.hid (putB_step hx)
      have q1 := Lib.hid (phead_any hB.out hTH 36 36 rfl x.size (by omega) (by omega))
      have q2 : Hid (∀ W, BS w w.heap.size (putB ss k ++ headB 36 x.size) W → Calls Tryz.prog 26 #[.pointer (some ⟨w.heap.size, 0, none⟩), .string x] W fun e w' => e = .returned (.tuple #[.int .i64 x.size, .nilIface]) ∧ BS w w.heap.size (putB ss k ++ headB 36 x.size ++ x.data.toList) w') := Lib.hid fun W h => bs_string h x (by
        have := dec_nat_size x.size (by omega)
        have e : (dec (x.size : Int)).data.toList.length = (dec (x.size : Int)).size := size_len _
        rw [dec_nat] at e
        simp [headB]; omega)
      have q3 : Hid (∀ W, BS w w.heap.size (putB ss k ++ headB 36 x.size ++ x.data.toList) W → Calls Tryz.prog 26 #[.pointer (some ⟨w.heap.size, 0, none⟩), .string ⟨#[13, 10]⟩] W fun e w' => e = .returned (.tuple #[.int .i64 2, .nilIface]) ∧ BS w w.heap.size (putB ss (k + 1)) w') := Lib.hid fun W h => by
        rw [hnx.out]
        exact bs_string h ⟨#[13, 10]⟩ (by
          have := dec_nat_size x.size (by omega)
          have e : (dec (x.size : Int)).data.toList.length = (dec (x.size : Int)).size := size_len _
          rw [dec_nat] at e
          simp only [List.length_append, headB, List.length_cons, size_len, List.length_nil]
          show _ + 2 ≤ _
          omega)
      clear hc hx hl hnx hal
      generalize putB ss k ++ headB 36 x.size ++ x.data.toList = m2 at q2 q3
      generalize putB ss k ++ headB 36 x.size = m1 at q1 q2
      go_wp2_with (first
        | (go_at_call 25; ((with_reducible refine q1.out.mono ?_); rintro e w2 ⟨rfl, h2⟩))
        | (go_at_call 26; ((with_reducible refine (q3.out _ h3).mono ?_); rintro e w4 ⟨rfl, h4⟩))
        | (go_at_call 26; ((with_reducible refine (q2.out _ h2).mono ?_); rintro e w3 ⟨rfl, h3⟩)))
      go_roundw
      case rel => exact ⟨k + 1, by go_num, by omega, Lib.hid h4⟩
      case measure => simp [intOf]; omega
    · have hke : k = ss.length := by omega
      have hB2 : BS w w.heap.size (putF (txt ss)) wr := by
        have := hB.out
        rw [hke, putB_all] at this
        exact this
      have hBH := Lib.hid hB2
      clear hB hB2 hke
      go_wp2_with (go_at_call 27; ((with_reducible refine (Tryz.Builder_String_any_f _ _ _ _ hBH.out.bd hBH.out.bel.size).mono ?_); rintro e w3 ⟨rfl, hB3, hb3⟩))
      go_ret
      exact ⟨rfl, hBH.out.bel.trans hb3⟩
end Go.Proofs.YtjcicbkjngpcoaaGreatDoor
