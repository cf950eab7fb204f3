/-
  The walk of the writing of a list and of any reply. Premises: what is written takes at most 2^47 bytes, no text in which a line's end is looked for is long, and the library's table of powers of ten holds what its initialiser lays.
-/
import Derived.Test.YtogbjhpkbdmllaaDoorRK
namespace Go.Proofs.YtogbjhpkbdmllaaDoor
open Go.RowKit Rp Dec

theorem putGo_next {α : Type} {g : α → List UInt8 × Int} {l : List α} {k : Nat} {y : α} (hy : l[k]? = some y) :
    putGo g (l.drop k) = if (g y).2 = 0 then ((g y).1 ++ (putGo g (l.drop (k + 1))).1, (putGo g (l.drop (k + 1))).2) else g y := by
  obtain ⟨hk, rfl⟩ := List.getElem?_eq_some_iff.1 hy
  rw [List.drop_eq_getElem_cons hk, putGo]
theorem calm_next {α : Type} {c : α → Prop} {g : α → List UInt8 × Int} {l : List α} {k : Nat} {y : α} (hy : l[k]? = some y) (h : calmGo c g (l.drop k)) : c y ∧ ((g y).2 = 0 → calmGo c g (l.drop (k + 1))) := by
  obtain ⟨hk, rfl⟩ := List.getElem?_eq_some_iff.1 hy
  rw [List.drop_eq_getElem_cons hk] at h
  exact h
theorem RAt.shape {W : World} {ok : Nat → Prop} {k : Nat} {y : Rep k} {c0 c1 c2 c3 : Value} (h : RAt W ok k y [c0, c1, c2, c3]) : ∃ kd nm b A len cap, c0 = .int .i64 kd ∧ c1 = .int .i64 nm ∧ c2 = .string b ∧ c3 = .slice A len cap := by
  cases k with
  | zero => exact h.elim
  | succ k =>
    obtain ⟨b, A, cap, h1, _⟩ := h
    simp only [List.cons.injEq, and_true] at h1
    obtain ⟨rfl, rfl, rfl, rfl⟩ := h1
    exact ⟨_, _, _, _, _, _, rfl, rfl, rfl, rfl⟩

set_option maxRecDepth 100000 in
set_option maxHeartbeats 4000000 in
theorem put_6 (w0 : World) (hT : Hid (Tab w0)) (b : Nat) (l : List UInt8) (n : Nat) (sub : List (Rep n)) (A : Option Addr) (cap within : Nat) (w : World) (hW : Below w0.heap.size w0 w) (hBd : Lib.IsBuilderF 50 5 w0.heap.size b (Lib.byteCells l) w) (s : ByteArray)
    (hF : ∀ w, Calls Tryd.prog 29 #[.agg #[.int .i64 6, .int .i64 0, .string s, .slice A sub.length cap], .int .i64 within] w fun e w' => e = .returned (.int .i64 0) ∧ Below w.heap.size w w') (hl : sub.length ≤ 65536) (hwi : within ≤ 8)
    (hS : SubAt w (· < w0.heap.size) (RAt w (· < w0.heap.size) n) A sub) (f : Rep n → List UInt8 × Int) (cl : Rep n → Prop) (hc : calmGo cl f sub)
    (ih : ∀ (x : Rep n) (cs : Array Value) (l : List UInt8) (w : World), RAt w (· < w0.heap.size) n x cs.toList → Below w0.heap.size w0 w → Lib.IsBuilderF 50 5 w0.heap.size b (Lib.byteCells l) w → cl x → l.length + (f x).1.length + 100 ≤ 140737488355328 →
      Calls Tryd.prog 22 #[.pointer (some ⟨b, 0, none⟩), .agg cs, .int .i64 ((within : Int) + 1)] w (PutEnd w0.heap.size b l (f x) w))
    (hlen : l.length + (lineP 42 (Lib.itoa sub.length) ++ (putGo f sub).1).length + 100 ≤ 140737488355328) :
    Calls Tryd.prog 22 #[.pointer (some ⟨b, 0, none⟩), .agg #[.int .i64 6, .int .i64 0, .string s, .slice A sub.length cap], .int .i64 within] w (PutEnd w0.heap.size b l (lineP 42 (Lib.itoa sub.length) ++ (putGo f sub).1, (putGo f sub).2) w) := by
  have hnew := Lib.hid (heap_alloc_new w (.cells #[.int .i64 6, .int .i64 0, .string s, .slice A sub.length cap] 24))
  have hg : w.heap.size ≠ b := by have := Bd.lt hBd; omega
  have hBw := hW.size
  have hn' : inI64 (sub.length : Int) := by unfold inI64; omega
  have hlen2 : l.length + (dec (sub.length : Int)).size + 3 ≤ 140737488355328 := by
    have := dec_size hn'
    simp [lineP] at hlen; omega
  have hOut : Hid (∀ p, p = lineP 42 (Lib.itoa sub.length) → (p ++ (putGo f (sub.drop 0)).1 = lineP 42 (Lib.itoa sub.length) ++ (putGo f sub).1 ∧ (putGo f (sub.drop 0)).2 = (putGo f sub).2)) := Lib.hid (fun p hp => by subst hp; exact ⟨rfl, rfl⟩)
  generalize hO : lineP 42 (Lib.itoa sub.length) ++ (putGo f sub).1 = OUT at hlen hOut ⊢
  generalize hE : (putGo f sub).2 = ERR at hOut ⊢
  clear hO hE
  go_enter Tryd.func22, Tryd.ntmps22
  go_wp2_with (first
    | (go_at_call 29; ((with_reducible refine (hF _).mono ?_); rintro e w1 ⟨rfl, hb⟩; have hx := (hb.block w.heap.size (by simp)).trans hnew.out; obtain ⟨c0, c1, c2, c3⟩ := cellsB hx; have hxH := Lib.hid hx; clear hx; have hBd1 := Bd.below (Lib.IsBuilderF.alloc hBd _) hb; have hK1 := Kp.of_below (b := b) (after_box hb) hBw; have hW1 := hW.trans ((after_box hb).mono hBw); have hBw1 := Nat.le_trans hBw (after_box hb).size))
    | (go_at_call 31; ((with_reducible refine (text_as (sub.length : Int) hT hn' _ hW1).mono ?_); rintro e w2 ⟨rfl, hb2⟩; have hBd2 := Bd.below hBd1 hb2; have hK2 := Kp.of_below (b := b) hb2 hBw1; have hBw2 := Nat.le_trans hBw1 hb2.size; have hx2 := (hb2.block w.heap.size (Array.getElem?_eq_some_iff.1 hxH.out).1).trans hxH.out; obtain ⟨e0, e1, e2, e3⟩ := cellsB hx2; have hx2H := Lib.hid hx2; clear hx2))
    | (go_at_call 30; ((with_reducible refine (line_as 42 42 rfl hBd2 hlen2 hBw2).mono ?_); rintro e w3 ⟨rfl, hBd3, hK3⟩; have hx3 := hK3.box hx2H.out hg; obtain ⟨i0, i1, i2, i3⟩ := cellsB hx3; have hBw3 := Nat.le_trans hBw2 hK3.size)))
  have hK := (hK1.trans hK2).trans hK3
  have hS3 : SubAt w3 (· < w0.heap.size) (RAt w3 (· < w0.heap.size) n) A sub := hS.keep (fun p hp _ => hK.1.cell hp) hK.size (fun _ h _ => h) fun y cs hy => hy.below hK.1 hBw
  clear hK1 hK2 hK3 hS hBd1 hBd2 hBd hxH hx2H hx3 hnew hlen2
  rw [dec_data] at hBd3
  have hP0 := hOut.out _ rfl
  go_loopw [73] (fun i wr => ∃ (k : Nat) (p : List UInt8), i = .int .i64 k ∧ k ≤ sub.length ∧ Hid (p ++ (putGo f (sub.drop k)).1 = OUT ∧ (putGo f (sub.drop k)).2 = ERR ∧ calmGo cl f (sub.drop k)) ∧ Lib.IsBuilderF 50 5 w0.heap.size b (Lib.byteCells (l ++ p)) wr ∧ Kp w0.heap.size b w wr ∧ Kp w0.heap.size b w3 wr) (fun i _ => sub.length - (intOf i).toNat)
  case atStart => exact ⟨0, _, rfl, by omega, Lib.hid ⟨hP0.1, hP0.2, hc⟩, hBd3, hK, Kp.refl _ _ _⟩
  case round =>
    clear hBd3 hK hc hP0 hOut
    obtain ⟨k, p, rfl, hk, hP, hBd, hK, hK3⟩ := hrel
    by_cases hlt : k < sub.length
    · have hyk : sub[k]? = some sub[k] := List.getElem?_eq_getElem hlt
      have hWr : Below w0.heap.size w0 wr := hW.trans hK.1
      have hSr : SubAt wr (· < w0.heap.size) (RAt wr (· < w0.heap.size) n) A sub := hS3.keep (fun p hp _ => hK3.1.cell hp) hK3.size (fun _ h _ => h) fun y cs hy => hy.below hK3.1 hBw3
      obtain ⟨ad, c0', c1', c2', c3', hA, _, hblk, e0', e1', e2', e3', hf⟩ := hSr k sub[k] hyk
      obtain ⟨kd, nm, bb, A2, len2, cap2, rfl, rfl, rfl, rfl⟩ := hf.shape
      subst hA
      obtain ⟨hP1, hP2, hP3⟩ := hP.out
      obtain ⟨hcy, hcn⟩ := calm_next hyk hP3
      have hnx := putGo_next (g := f) hyk
      have hle : p.length + (f sub[k]).1.length ≤ OUT.length := by
        rw [← hP1, hnx]
        split
        · simp
        · simp
      have hcall := ih sub[k] #[.int .i64 kd, .int .i64 nm, .string bb, .slice A2 len2 cap2] (l ++ p) (wr.alloc (.cells #[.int .i64 kd, .int .i64 nm, .string bb, .slice A2 len2 cap2] 24)) (hf.below ((Below.refl _ _).alloc (by have := hWr.size; omega) _) (by have := hWr.size; omega)) (hWr.alloc (by have := hWr.size; omega) _) (Lib.IsBuilderF.alloc hBd _) hcy (by rw [List.length_append]; omega)
      by_cases hz : (f sub[k]).2 = 0
      · rw [if_pos hz] at hnx
        have hN : Hid (p ++ (f sub[k]).1 ++ (putGo f (sub.drop (k + 1))).1 = OUT ∧ (putGo f (sub.drop (k + 1))).2 = ERR ∧ calmGo cl f (sub.drop (k + 1))) := Lib.hid (by
          rw [hnx] at hP1 hP2
          exact ⟨by rw [← hP1]; simp, hP2, hcn hz⟩)
        unfold PutEnd at hcall
        rw [hz] at hcall
        clear hP1 hP2 hP3 hcy hcn hnx hz hP hle ih hF
        go_wp2_with (go_at_call 22; ((with_reducible refine hcall.mono ?_); rintro e w4 ⟨rfl, hBd4, hK4⟩))
        have hK5 := (Kp.of_below (b := b) (one_box (w := wr)) hWr.size).trans hK4
        clear hcall
        go_roundw
        case rel => exact ⟨k + 1, p ++ (f sub[k]).1, by go_num, by omega, hN, by rw [← List.append_assoc]; exact hBd4, hK.trans hK5, hK3.trans hK5⟩
        case measure => simp [intOf]; omega
      · rw [if_neg hz] at hnx
        have hN : Hid (p ++ (f sub[k]).1 = OUT ∧ (f sub[k]).2 = ERR) := Lib.hid (by rw [hnx] at hP1 hP2; exact ⟨hP1, hP2⟩)
        have hz' : ((f sub[k]).2 != 0) = true := by simpa using hz
        unfold PutEnd at hcall
        clear hP1 hP2 hP3 hcy hcn hnx hz hP hle ih hF
        go_wp2_with (go_at_call 22; ((with_reducible refine hcall.mono ?_); rintro e w4 ⟨rfl, hBd4, hK4⟩))
        go_ret
        exact ⟨ret_int hN.out.2, by rw [← hN.out.1, ← List.append_assoc]; exact hBd4, hK.trans ((Kp.of_below (b := b) (one_box (w := wr)) hWr.size).trans hK4)⟩
    · have hd : sub.drop k = [] := List.drop_of_length_le (by omega)
      have hN : Hid (p = OUT ∧ ERR = 0) := Lib.hid (by
        obtain ⟨h1, h2, _⟩ := hP.out
        rw [hd] at h1 h2
        exact ⟨by simpa [putGo] using h1, h2.symm⟩)
      go_wp2_with fail
      go_ret
      exact ⟨ret_int hN.out.2.symm, by rw [← hN.out.1]; exact hBd, hK⟩

theorem putN_zero {α : Type} {f : α → List UInt8 × Int} {x : RNode α} {w : Nat} (h : faultF x w = 0) : putN f x w =
    if x.kind = 1 then (lineP 43 x.txt, 0) else if x.kind = 2 then (lineP 45 x.txt, 0) else if x.kind = 3 then (lineP 58 (Lib.itoa x.num), 0) else if x.kind = 4 then (lineP 36 (Lib.itoa x.txt.length) ++ x.txt ++ eol, 0)
    else if x.kind = 5 then (lineP 36 (Lib.itoa (-1)), 0) else if x.kind = 7 then (lineP 42 (Lib.itoa (-1)), 0) else (lineP 42 (Lib.itoa x.sub.length) ++ (putGo f x.sub).1, (putGo f x.sub).2) := by
  unfold putN
  rw [if_neg (by rw [h]; decide)]
theorem put_any (w0 : World) (hT : Hid (Tab w0)) (b : Nat) (n : Nat) : ∀ (within : Nat) (x : Rep n) (cs : Array Value) (l : List UInt8) (w : World), within ≤ 8 → RAt w (· < w0.heap.size) n x cs.toList → Below w0.heap.size w0 w → Lib.IsBuilderF 50 5 w0.heap.size b (Lib.byteCells l) w →
    Rp.Calm n within x → l.length + (putF n within x).1.length + 100 ≤ 140737488355328 → Calls Tryd.prog 22 #[.pointer (some ⟨b, 0, none⟩), .agg cs, .int .i64 within] w (PutEnd w0.heap.size b l (putF n within x) w) := by
  induction n with
  | zero => intro within x; exact x.elim
  | succ n ih =>
    intro within x cs l w hwi h hW hBd hC hlen
    obtain ⟨s, A, cap, h1, h2, h3, h4, h5, h6, h7⟩ := h
    obtain ⟨cs⟩ := cs
    simp only at h1
    subst h1
    obtain ⟨hC1, hC2⟩ := hC
    change l.length + (putN (putF n (within + 1)) (x : RNode (Rep n)) within).1.length + 100 ≤ 140737488355328 at hlen
    show Calls Tryd.prog 22 _ w (PutEnd w0.heap.size b l (putN (putF n (within + 1)) (x : RNode (Rep n)) within) w)
    obtain ⟨yk, yn, yt, ys⟩ : RNode (Rep n) := x
    simp only at h2 h3 h4 h6 h7 hC1 hC2 hlen ⊢
    subst h2
    have hsz : s.data.toList.length = s.size := by simp
    have hFV := fault_V (⟨yk, yn, s.data.toList, ys⟩ : RNode (Rep n)) within
    have hF := fun w => fault_any yk yn s A ys.length cap within w (fun hq hk => by
      have := hC1 (by rw [named_V]; exact hq) hk
      omega)
    rw [← hFV] at hF
    by_cases hz : faultF (⟨yk, yn, s.data.toList, ys⟩ : RNode (Rep n)) within = 0
    · rw [hz] at hF
      obtain ⟨hnm, h12, h44, h66, h67⟩ := faultF_named hz
      rw [putN_zero hz] at hlen ⊢
      rcases named_cases hnm with ⟨rfl, _, _⟩ | ⟨rfl, _, _⟩ | ⟨rfl, _, _⟩ | ⟨rfl, _, _⟩ | ⟨rfl, _, _, _⟩ | ⟨rfl, e1, e2⟩ | ⟨rfl, _, _, _⟩
      · have := hC1 hnm (Or.inl rfl)
        exact put_1 w0 hT b l yn s A ys.length cap within w hW hBd hF h4 (by omega) (by simp [lineP, eol] at hlen; omega)
      · have := hC1 hnm (Or.inr rfl)
        exact put_2 w0 hT b l yn s A ys.length cap within w hW hBd hF h4 (by omega) (by simp [lineP, eol] at hlen; omega)
      · have e0 : s.size = 0 := by
          have : s.data.toList = [] := by assumption
          rw [← hsz, this]; rfl
        exact put_3 w0 hT b l yn s A ys.length cap within w hW hBd hF h4 (by omega) (by simp [lineP, eol] at hlen; omega)
      · have hx4 : s.data.toList.length ≤ 1048576 := h44 rfl
        simp only [Int.reduceEq, if_false, if_true] at hlen ⊢
        have hx := put_4 w0 hT b l yn s A ys.length cap within w hW hBd hF h4 (by omega) (by simp [lineP, eol] at hlen; omega)
        rw [hsz]
        exact hx
      · have e0 : s.size = 0 := by
          have : s.data.toList = [] := by assumption
          rw [← hsz, this]; rfl
        exact put_5 w0 hT b l yn s A ys.length cap within w hW hBd hF h4 (by omega) (by simp [lineP, eol] at hlen; omega)
      · have hw8 := h67 (Or.inl rfl)
        have hl := h66 rfl
        simp only [Int.reduceEq, if_false] at hlen ⊢
        simp only at e1
        subst e1
        refine put_6 w0 hT b l n ys A cap within w hW hBd s hF hl hwi h7 (putF n (within + 1)) (Rp.Calm n (within + 1)) (hC2 hz) (fun x cs l w hr hw hb hc hlen => ?_) hlen
        have := ih (within + 1) x cs l w (by omega) hr hw hb hc hlen
        push_cast at this
        exact this
      · have e0 : s.size = 0 := by
          have : s.data.toList = [] := by assumption
          rw [← hsz, this]; rfl
        exact put_7 w0 hT b l yn s A ys.length cap within w hW hBd hF h4 (by omega) (by simp [lineP, eol] at hlen; omega)
    · have hp : putN (putF n (within + 1)) (⟨yk, yn, s.data.toList, ys⟩ : RNode (Rep n)) within = ([], faultF (⟨yk, yn, s.data.toList, ys⟩ : RNode (Rep n)) within) := by
        unfold putN; rw [if_pos hz]
      rw [hp]
      exact put_fault w0.heap.size b l yk yn s A ys.length cap within w hBd hW.size _ hF (by simpa using hz)

/-- What a reply's bytes are told as. -/
def putS (r : List UInt8 × Int) : ByteArray := if r.2 = 0 then ⟨r.1.toArray⟩ else ⟨#[]⟩
set_option maxHeartbeats 2000000 in
theorem Put_any (n : Nat) (x : Rep n) (cs : Array Value) (w : World) (hT : Tab w) (h : RAt w (fun _ => True) n x cs.toList) (hC : Rp.Calm n 0 x) (hlen : (putF n 0 x).1.length ≤ 1099511627776) :
    Calls Tryd.prog 10 #[.agg cs] w fun e w' => e = .returned (.tuple #[.string (putS (putF n 0 x)), .int .i64 (putF n 0 x).2]) ∧ Below w.heap.size w w' := by
  obtain ⟨kd, nm, s, A, len, cap, rfl⟩ : ∃ kd nm b A len cap, cs = #[.int .i64 kd, .int .i64 nm, .string b, .slice A len cap] := by
    cases n with
    | zero => exact h.elim
    | succ n =>
      obtain ⟨b, A, cap, h1, _⟩ := h
      obtain ⟨cs⟩ := cs
      simp only at h1
      subst h1
      exact ⟨_, _, _, _, _, _, rfl⟩
  obtain ⟨W, hWe⟩ : ∃ W, w.alloc (.cells #[.int .i64 kd, .int .i64 nm, .string s, .slice A len cap] 24) = W := ⟨_, rfl⟩
  have hbx : Below w.heap.size w W := by rw [← hWe]; exact one_box
  have hT' : Hid (Tab W) := Lib.hid (hT.on hbx)
  have hzW : w.heap.size < W.heap.size := by rw [← hWe]; simp
  have hfr := Lib.IsBuilderF.of (Lib.fresh_isBuilder 50 5 W)
  have hr := (h.on hbx).weaken (ok' := (· < W.heap.size)) (fun b _ hb => hb)
  have hbB : Below W.heap.size W (W.alloc (.cells #[.pointer none, .slice none 0 0] 50)) := one_box
  have hcall : Calls Tryd.prog 22 #[.pointer (some ⟨W.heap.size, 0, none⟩), .agg #[.int .i64 kd, .int .i64 nm, .string s, .slice A len cap], .int .i64 0] (W.alloc (.cells #[.pointer none, .slice none 0 0] 50)) (PutEnd W.heap.size W.heap.size [] (putF n 0 x) (W.alloc (.cells #[.pointer none, .slice none 0 0] 50))) := put_any W hT' W.heap.size n 0 x #[.int .i64 kd, .int .i64 nm, .string s, .slice A len cap] [] (W.alloc (.cells #[.pointer none, .slice none 0 0] 50)) (by omega) (hr.below hbB (Nat.le_refl _)) hbB hfr hC (by simp; omega)
  subst hWe
  unfold PutEnd at hcall
  rw [List.nil_append] at hcall
  have hbxH := Lib.hid hbx
  have hz1 : (w.alloc (.cells #[.int .i64 kd, .int .i64 nm, .string s, .slice A len cap] 24)).heap.size = w.heap.size + 1 := by simp
  rw [hz1] at hcall
  have hzB : w.heap.size + 1 ≤ ((w.alloc (.cells #[.int .i64 kd, .int .i64 nm, .string s, .slice A len cap] 24)).alloc (.cells #[.pointer none, .slice none 0 0] 50)).heap.size := by simp
  have hzBH := Lib.hid hzB
  clear hzB hz1 hzW
  by_cases hz : (putF n 0 x).2 = 0
  · have hS : Hid (putS (putF n 0 x) = ⟨(putF n 0 x).1.toArray⟩) := Lib.hid (by unfold putS; rw [if_pos hz])
    rw [hz] at hcall ⊢
    generalize (putF n 0 x).1 = out at hcall hS
    clear hz hlen hfr hr hbB h hbx
    go_enter Tryd.func10, Tryd.ntmps10
    go_wp2_with (first
      | (go_at_call 22; ((with_reducible refine hcall.mono ?_); rintro e w2 ⟨rfl, hB2, hK2⟩))
      | (go_at_call 23; ((with_reducible refine (Tryd.Builder_String_any_f _ _ _ _ hB2 (Nat.le_trans hzBH.out hK2.size)).mono ?_); rintro e w3 ⟨rfl, hB3, hb3⟩)))
    go_ret2
    refine ⟨by rw [hS.out]; rfl, ?_⟩
    exact (hbxH.out.alloc hbxH.out.size _).trans ((hK2.1.mono (by omega)).trans (hb3.mono (by omega)))
  · have hS : Hid (putS (putF n 0 x) = ⟨#[]⟩) := Lib.hid (by unfold putS; rw [if_neg hz])
    have hz' : ((putF n 0 x).2 != 0) = true := by simpa using hz
    clear hz hlen hfr hr hbB h hbx
    go_enter Tryd.func10, Tryd.ntmps10
    go_wp2_with (go_at_call 22; ((with_reducible refine hcall.mono ?_); rintro e w2 ⟨rfl, hB2, hK2⟩))
    go_ret2
    refine ⟨by rw [hS.out]; rfl, ?_⟩
    exact (hbxH.out.alloc hbxH.out.size _).trans (hK2.1.mono (by omega))

end Go.Proofs.YtogbjhpkbdmllaaDoor
