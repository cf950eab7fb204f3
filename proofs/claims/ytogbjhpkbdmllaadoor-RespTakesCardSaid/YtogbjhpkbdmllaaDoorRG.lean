/-
  The walks of the readers of a list and of a reply, each within the other. A premise: the text is shorter than 4294967281 bytes.
-/
import Derived.Test.YtogbjhpkbdmllaaDoorRF
namespace Go.Proofs.YtogbjhpkbdmllaaDoor
open Go.RowKit Rp Dec

def listAns {α : Type} (j : Nat) (T : Sum Int (List α × Nat)) : Sum Int (RNode α × Nat) := match T with
  | .inl e => .inl e
  | .inr (l, m) => .inr (⟨6, 0, [], l⟩, j + m)
/-- Replies that are known already, and what is still to come. -/
def addL {α : Type} (ys : List α) (m : Nat) (R : Sum Int (List α × Nat)) : Sum Int (List α × Nat) := match R with
  | .inl e => .inl e
  | .inr (l, n) => .inr (ys ++ l, m + n)
theorem addL_nil {α : Type} (R : Sum Int (List α × Nat)) : addL [] 0 R = R := by
  unfold addL; split <;> simp
theorem addL_step {α : Type} {f : List UInt8 → Sum Int (α × Nat)} {ys : List α} {m c n : Nat} {s : List UInt8} {y : α} (h : f s = .inr (y, n)) : addL ys m (listGo f (c + 1) s) = addL (ys ++ [y]) (m + n) (listGo f c (s.drop n)) := by
  rw [listGo, h]
  simp only []
  cases listGo f c (s.drop n) with
  | inl e => rfl
  | inr q => simp [addL]; omega
theorem addL_err {α : Type} {f : List UInt8 → Sum Int (α × Nat)} {ys : List α} {m c : Nat} {s : List UInt8} {x : Int} (h : f s = .inl x) : addL ys m (listGo f (c + 1) s) = .inl x := by
  rw [listGo, h]; rfl
theorem addL_end {α : Type} {f : List UInt8 → Sum Int (α × Nat)} {ys : List α} {m : Nat} {s : List UInt8} : addL ys m (listGo f 0 s) = .inr (ys, m) := by
  simp [listGo, addL]
theorem ret_below' {w w' : World} {o : Obj} (hb : Below (w.heap.size + 1) (w.alloc o) w') {v0 v1 v2 v3 : Value} :
    Below w.heap.size w ((((w'.setCell ⟨w.heap.size, 0, none⟩ v0).setCell ⟨w.heap.size, 1, none⟩ v1).setCell ⟨w.heap.size, 2, none⟩ v2).setCell ⟨w.heap.size, 3, none⟩ v3) :=
  put_below (((Below.refl w.heap.size w).alloc (Nat.le_refl _) _).trans (hb.mono (by omega))) (Nat.le_refl _) _ _ _ _
theorem RAt.form {W : World} {ok : Nat → Prop} {k : Nat} {y : Rep k} {cs : Array Value} (hk : k ≠ 0) (h : RAt W ok k y cs.toList) : ∃ kd nm b A len cap, cs = #[.int .i64 kd, .int .i64 nm, .string b, .slice A len cap] := by
  cases k with
  | zero => exact absurd rfl hk
  | succ k =>
    obtain ⟨b, A, cap, h1, _⟩ := h
    obtain ⟨cs⟩ := cs
    simp only at h1
    subst h1
    exact ⟨_, _, _, _, _, _, rfl⟩
/-- Behind a call, a reply more that the call made. -/
theorem fresh_ok {wr w1 W : World} {base k : Nat} {v : Value} {ys : List (Rep k)} {y : Rep k} {cs : List Value} (h : Row wr base k v ys) (hbase : base ≤ wr.heap.size) (hr : RAt w1 (fun b => wr.heap.size ≤ b) k y cs) (hb : Below w1.heap.size w1 W) :
    RAt W (fun b => base ≤ b ∧ v.ownBlock ≠ some b) k y cs := by
  obtain ⟨css, h1, _⟩ := h
  refine (hr.weaken fun b hb _ => ⟨by omega, fun e => ?_⟩).on hb
  have := (h1.lt b e).2
  omega
theorem sub_after {wr W : World} {g k : Nat} {A : Option Addr} {ys : List (Rep k)} (h : SubAt wr (fun b => g + 1 ≤ b) (RAt wr (fun b => g + 1 ≤ b) k) A ys) (hs : wr.heap.size ≤ W.heap.size) (hk : ∀ p : Addr, p.block ≠ g → W.cell? p = wr.cell? p) :
    SubAt W (fun b => g ≤ b) (RAt W (fun b => g ≤ b) k) A ys :=
  h.keep (fun p hp _ => hk p (by omega)) hs (fun b hb _ => by omega) fun y cs hy => hy.keep (fun p hp _ => hk p (by omega)) hs (fun b hb _ => by omega)
theorem put_other {W : World} {g : Nat} {v0 v1 v2 v3 : Value} (p : Addr) (h : p.block ≠ g) :
    ((((W.setCell ⟨g, 0, none⟩ v0).setCell ⟨g, 1, none⟩ v1).setCell ⟨g, 2, none⟩ v2).setCell ⟨g, 3, none⟩ v3).cell? p = W.cell? p := by
  rw [World.cell?_setCell_other _ _ _ _ (fun e => h (by rw [← e])), World.cell?_setCell_other _ _ _ _ (fun e => h (by rw [← e])), World.cell?_setCell_other _ _ _ _ (fun e => h (by rw [← e])), World.cell?_setCell_other _ _ _ _ (fun e => h (by rw [← e]))]

theorem take_list {k : Nat} {R : Sum Int (Rep (k + 1) × Nat)} {w w' : World} {A : Option Addr} {cap : Nat} {ys : List (Rep k)} {n : Nat} {m : Int} (h : R = .inr ((⟨6, 0, [], ys⟩ : RNode (Rep k)), n)) (hm : m = n) (hb : Below w.heap.size w w') (hl : ys.length ≤ 140737488355328)
    (hs : SubAt w' (fun b => w.heap.size ≤ b) (RAt w' (fun b => w.heap.size ≤ b) k) A ys) :
    TakeEnd (k + 1) R w (.returned (.tuple #[.agg #[.int .i64 6, .int .i64 0, .string ⟨#[]⟩, .slice A ys.length cap], .int .i64 m, .int .i64 0])) w' := by
  subst h hm
  exact ⟨hb, _, rfl, ⟨#[]⟩, A, cap, rfl, rfl, by show inI64 6; unfold inI64; omega, by show inI64 0; unfold inI64; omega, Nat.zero_le _, hl, hs⟩

set_option maxRecDepth 100000 in
set_option maxHeartbeats 4000000 in
theorem takeList_any (k within : Nat) (hk : within + k = 8) (ih : ∀ (s : ByteArray) (w : World), s.size < 4294967281 → k ≠ 0 → Calls Tryd.prog 26 #[.string s, .int .i64 ((within : Int) + 1)] w (TakeEnd k (takeF k s.data.toList) w))
    (s : ByteArray) (w : World) (hs : s.size < 4294967281) :
    Calls Tryd.prog 39 #[.string s, .int .i64 within] w (TakeEnd (k + 1) (listN (k == 0) (takeF k) s.data.toList : Sum Int (RNode (Rep k) × Nat)) w) := by
  have hnew := Lib.hid (heap_alloc_new w (.cells #[.int .i64 0, .int .i64 0, .string ⟨#[]⟩, .slice none 0 0] 24))
  by_cases hk0 : k = 0
  · have hR : Hid ((listN (k == 0) (takeF k) s.data.toList : Sum Int (RNode (Rep k) × Nat)) = .inl 7) := Lib.hid (by unfold listN; rw [if_pos (by simpa using hk0)])
    obtain rfl : within = 8 := by omega
    clear ih hk hk0
    go_enter Tryd.func39, Tryd.ntmps39
    go_wp2_with fail
    refine bodyPost_ret (v := .tuple #[.agg #[.int .i64 0, .int .i64 0, .string ⟨#[]⟩, .slice none 0 0], .int .i64 (0), .int .i64 (7)]) (by simp [results, Tryd.results39, go_sem]) rfl ?_
    exact take_no hR.out ((Below.refl _ _).alloc (Nat.le_refl _) _)
  · have hw8 : within < 8 := by omega
    have ih' := fun s w hs => ih s w hs hk0
    have hfl : (k == 0) = false := by simpa using hk0
    cases hD : decGo (-1) 65536 7 [] s.data.toList with
    | inl x =>
      have hx := dec_as (s := s) (by omega) hD
      have hR : Hid ((listN (k == 0) (takeF k) s.data.toList : Sum Int (RNode (Rep k) × Nat)) = .inl x) := Lib.hid (by unfold listN; rw [hfl, if_neg (by decide), hD])
      have hne : (x != 0) = true := by rcases dec_err _ _ _ hD with e | e | e <;> rw [e] <;> decide
      clear hD hfl ih ih' hk0
      go_enter Tryd.func39, Tryd.ntmps39
      go_wp2_with (go_at_call 53; ((with_reducible refine (hx _).mono ?_); rintro e w' ⟨rfl, rfl⟩))
      refine bodyPost_ret (v := .tuple #[.agg #[.int .i64 0, .int .i64 0, .string ⟨#[]⟩, .slice none 0 0], .int .i64 (0), .int .i64 (x)]) (by simp [results, Tryd.results39, go_sem]) rfl ?_
      exact take_no hR.out ((Below.refl _ _).alloc (Nat.le_refl _) _)
    | inr q =>
      obtain ⟨n, j⟩ := q
      have hx := dec_as (s := s) (by omega) hD
      have hG : (listN (k == 0) (takeF k) s.data.toList : Sum Int (RNode (Rep k) × Nat)) = subsN (takeF k) n j (s.data.toList.drop j) := by unfold listN; rw [hfl, if_neg (by decide), hD]
      obtain ⟨hj, _, hlo, hhi, _⟩ := dec_bounds hD
      clear hD hfl ih hk0
      by_cases hn1 : n = -1
      · subst hn1
        have hR : Hid ((listN (k == 0) (takeF k) s.data.toList : Sum Int (RNode (Rep k) × Nat)) = .inr (⟨7, 0, [], []⟩, j)) := Lib.hid (by rw [hG]; unfold subsN; rw [if_pos rfl])
        clear hG ih'
        go_enter Tryd.func39, Tryd.ntmps39
        go_wp2_with (go_at_call 53; ((with_reducible refine (hx _).mono ?_); rintro e w' ⟨rfl, rfl⟩))
        refine bodyPost_ret (v := .tuple #[.agg #[.int .i64 7, .int .i64 0, .string ⟨#[]⟩, .slice none 0 0], .int .i64 (j), .int .i64 (0)]) (by simp [results, Tryd.results39, go_sem]) rfl ?_
        exact take_leaf hR.out rfl ((Below.refl _ _).alloc (Nat.le_refl _) _) rfl (by unfold inI64; omega) (by unfold inI64; omega) (Nat.zero_le _)
      · obtain ⟨cnt, rfl⟩ : ∃ m : Nat, n = (m : Int) := ⟨n.toNat, by omega⟩
        have hq : ((cnt : Int) == -1) = false := beq_eq_false_iff_ne.2 (by omega)
        obtain ⟨T, hT⟩ : ∃ T, listGo (takeF k) cnt (s.data.toList.drop j) = T := ⟨_, rfl⟩
        have hG2 : Hid ((listN (k == 0) (takeF k) s.data.toList : Sum Int (RNode (Rep k) × Nat)) = listAns j T) := Lib.hid (by
          rw [hG]; unfold subsN; rw [if_neg hn1, Int.toNat_natCast, ← hT]; rfl)
        have hTH := Lib.hid hT
        clear hG hn1 hT
        obtain ⟨i0, hi, hz0, hz1, hz2⟩ := info_parts reply_info
        go_enter Tryd.func39, Tryd.ntmps39
        go_wp2_with (go_at_call 53; ((with_reducible refine (hx _).mono ?_); rintro e w' ⟨rfl, rfl⟩))
        clear hx
        have hb0 : Below (w.heap.size + 1) (w.alloc (.cells #[.int .i64 0, .int .i64 0, .string ⟨#[]⟩, .slice none 0 0] 24)) (w.alloc (.cells #[.int .i64 0, .int .i64 0, .string ⟨#[]⟩, .slice none 0 0] 24)) := Below.refl _ _
        go_loopw [8, 10, 32] (fun sz v i wr => ∃ (c m : Nat) (ys : List (Rep k)), i = .int .i64 c ∧ c ≤ cnt ∧ ys.length = c ∧ j + m ≤ s.size ∧ sz = .int .i64 ((j : Int) + m) ∧
            Hid (addL ys m (listGo (takeF k) (cnt - c) (s.data.toList.drop (j + m))) = T) ∧ Row wr (w.heap.size + 1) k v ys ∧ Below (w.heap.size + 1) (w.alloc (.cells #[.int .i64 0, .int .i64 0, .string ⟨#[]⟩, .slice none 0 0] 24)) wr) (fun _ _ i _ => cnt - (intOf i).toNat)
        case atStart => exact ⟨0, 0, [], rfl, by omega, rfl, by omega, by go_num, Lib.hid (by rw [addL_nil]; exact hTH.out), Row.none_ _ _ _, hb0⟩
        case round =>
          clear hb0 hTH
          obtain ⟨c, m, ys, rfl, hc, hlen, hm, rfl, hTH, hRow, hb⟩ := hrel
          by_cases hlt : c < cnt
          · have hcz : Hid (cnt - c = (cnt - (c + 1)) + 1) := Lib.hid (by omega)
            have hsz : (s.extract (j + m) s.size).size = s.size - (j + m) := by simp
            have hcall := ih' (s.extract (j + m) s.size) wr (by omega)
            rw [tail_data] at hcall
            clear hsz
            cases hf : takeF k (s.data.toList.drop (j + m)) with
            | inl x =>
              have hx0 : (x != 0) = true := by simpa using takeF_err _ _ _ hf
              have hE : Hid (T = .inl x) := Lib.hid (by rw [← hTH.out, hcz.out, addL_err hf])
              rw [hf] at hcall
              clear hf ih'
              go_wp2_with (go_at_call 26; ((with_reducible refine hcall.mono ?_); rintro e w1 ⟨hb1, rfl⟩; have hbw := hb.trans (hb1.mono (by have := hb.size; simpa using this)); have hzz : w.heap.size < w1.heap.size := (by have := hbw.size; simp at this; omega); obtain ⟨c0, c1, c2, c3, f0, f1, f2, f3⟩ := cells4 hbw hnew.out (Nat.lt_succ_self _)))
              have hl := laid4 (v0 := .int .i64 0) (v1 := .int .i64 0) (v2 := .string ⟨#[]⟩) (v3 := .slice none 0 0) ((hbw.block w.heap.size (Nat.lt_succ_self _)).trans hnew.out)
              have hB := Lib.hid (ret_below' hbw (v0 := .int .i64 0) (v1 := .int .i64 0) (v2 := .string ⟨#[]⟩) (v3 := .slice none 0 0))
              generalize ((((w1.setCell ⟨w.heap.size, 0, none⟩ (.int .i64 0)).setCell ⟨w.heap.size, 1, none⟩ (.int .i64 0)).setCell ⟨w.heap.size, 2, none⟩ (.string ⟨#[]⟩)).setCell ⟨w.heap.size, 3, none⟩ (.slice none 0 0)) = w2 at hl hB ⊢
              have hl2 := (Lib.alloc_old w2 (.cells #[.int .i64 0, .int .i64 0, .string ⟨#[]⟩, .slice none 0 0] 24) _ (Array.getElem?_eq_some_iff.1 hl).1).trans hl
              have hB2 := Lib.hid (hB.out.alloc hB.out.size (.cells #[.int .i64 0, .int .i64 0, .string ⟨#[]⟩, .slice none 0 0] 24))
              clear hl
              generalize w2.alloc (.cells #[.int .i64 0, .int .i64 0, .string ⟨#[]⟩, .slice none 0 0] 24) = w3 at hl2 hB2 ⊢
              obtain ⟨d0, d1, d2, d3⟩ := read4 hl2
              refine bodyPost_ret (v := .tuple #[.agg #[.int .i64 0, .int .i64 0, .string ⟨#[]⟩, .slice none 0 0], .int .i64 0, .int .i64 x]) (by simp [results, Tryd.results39, go_sem, d0, d1, d2, d3]) rfl ?_
              exact take_no (by rw [hG2.out, hE.out]; rfl) hB2.out
            | inr q =>
              obtain ⟨y, n⟩ := q
              have hle : n ≤ s.size - (j + m) := by
                have := takeF_le (w := within + 1) (by omega) hf
                rw [List.length_drop] at this
                have e : s.data.toList.length = s.size := by simp
                omega
              have hN : Hid (addL (ys ++ [y]) (m + n) (listGo (takeF k) (cnt - (c + 1)) (s.data.toList.drop (j + (m + n)))) = T) := Lib.hid (by
                rw [← hTH.out, hcz.out, addL_step hf, List.drop_drop, show j + m + n = j + (m + n) by omega])
              rw [hf] at hcall
              clear hf ih'
              obtain ⟨hb1x, _⟩ : True ∧ True := ⟨trivial, trivial⟩
              have hcall2 : Calls Tryd.prog 26 #[.string (s.extract (j + m) s.size), .int .i64 ((within : Int) + 1)] wr fun e w1 => ∃ kd nm b A len cap, e = .returned (.tuple #[.agg #[.int .i64 kd, .int .i64 nm, .string b, .slice A len cap], .int .i64 n, .int .i64 0]) ∧ Below wr.heap.size wr w1 ∧
                  RAt w1 (fun b => wr.heap.size ≤ b) k y [.int .i64 kd, .int .i64 nm, .string b, .slice A len cap] := hcall.mono fun e w1 h => by
                obtain ⟨hb1, cs, he, hr⟩ := h
                obtain ⟨kd, nm, b, A, len, cap, rfl⟩ := hr.form (by omega)
                exact ⟨kd, nm, b, A, len, cap, he, hb1, hr⟩
              clear hcall hb1x
              have hbs : w.heap.size + 1 ≤ wr.heap.size := by have := hb.size; simpa using this
              have hlen' : ys.length ≤ 65536 := by omega
              have hlenH := Lib.hid hlen
              clear hlen
              have hob : ∀ b, u10.ownBlock = some b → w.heap.size + 1 ≤ b ∧ b < wr.heap.size := by
                obtain ⟨css, h1, _⟩ := hRow
                exact fun b e => h1.lt b e
              obtain ⟨A0, cap0, hv, _⟩ := hRow.sub
              subst hv
              go_upto_region 14 with (go_at_call 26; ((with_reducible refine hcall2.mono ?_); rintro e w1 ⟨kd, nm, b, A, len, cap, rfl, hb1, hr⟩))
              have hbw := hb.trans (hb1.mono hbs)
              have hs1 := hb1.size
              have hRow1 := (hRow.below hb1).below ((Below.refl _ _).alloc (Nat.le_refl _) (.cells #[.int .i64 kd, .int .i64 nm, .string b, .slice A len cap] 24))
              have hF := fresh_ok hRow hbs hr ((Below.refl _ _).alloc (Nat.le_refl _) (.cells #[.int .i64 kd, .int .i64 nm, .string b, .slice A len cap] 24))
              have hbw2 := hbw.alloc (by have := hbw.size; simpa using this) (.cells #[.int .i64 kd, .int .i64 nm, .string b, .slice A len cap] 24)
              have hbox := heap_alloc_new w1 (.cells #[.int .i64 kd, .int .i64 nm, .string b, .slice A len cap] 24)
              generalize w1.alloc (.cells #[.int .i64 kd, .int .i64 nm, .string b, .slice A len cap] 24) = w4 at hRow1 hF hbw2 hbox ⊢
              obtain ⟨css, r1, r2, r3, r4⟩ := hRow1
              go_step
              go_step
              go_step
              go_step
              refine wpList_load_row rfl 24 (.tmp 11) rfl w1.heap.size rfl 24 #[.int .i64 kd, .int .i64 nm, .string b, .slice A len cap] (0, 0) _ hbox Tryd.underlying24 rfl (by kernel_rfl) ?_
              refine wpList_reply (.tmp 49) rfl rfl (d := some 50) rfl #[.int .i64 kd, .int .i64 nm, .string b, .slice A len cap] rfl rfl ?_
              refine wpList_append_own_at _ rfl (.tmp 48) (.tmp 50) 22 rfl (w.heap.size + 1) 24 i0 _ 4 56 Tryd.underlying22 hi hz0 hz1 hz2 rfl (by decide) (.slice A0 ys.length cap0) ys.length css.flatten rfl (r1.alloc _) ⟨w4.heap.size, 0, none⟩ 1 1 [.int .i64 kd, .int .i64 nm, .string b, .slice A len cap] rfl rfl (new_cells _ [.int .i64 kd, .int .i64 nm, .string b, .slice A len cap]) hF.len.2 (by unfold maxLen; omega) (by omega) (by have := hbw2.size; simp at this ⊢; omega) ?_
              intro v' w' hown' hgrow _ hloc
              have hRowN := Row.push r2 r3 r4 hF hown' hgrow hloc
              have hbN := (hbw2.alloc (by have := hbw2.size; simpa using this) (.cells #[.int .i64 kd, .int .i64 nm, .string b, .slice A len cap] 24)).grown hgrow (by have := hbw2.size; simp at this ⊢; omega) (fun k hk => (r1.lt k hk).1)
              clear hown' hgrow hloc r1 r2 r3 r4 hF hob hRow hbox
              go_wp2_with fail
              go_roundw
              case rel => exact ⟨c + 1, m + n, ys ++ [y], by go_num, by omega, by have := hlenH.out; simp; omega, by omega, congrArg (Value.int .i64) (by omega), hN, hRowN, hbN⟩
              case measure => simp [intOf]; omega
          · have hE : Hid (T = .inr (ys, m)) := Lib.hid (by rw [← hTH.out, show cnt - c = 0 by omega, addL_end])
            have hlen' : ys.length ≤ 65536 := by omega
            obtain ⟨A, cap, hv, hcap, hsub⟩ := hRow.sub
            subst hv
            clear hlen ih'
            have hzz : w.heap.size < wr.heap.size := by have := hb.size; simp at this; omega
            obtain ⟨c0, c1, c2, c3, f0, f1, f2, f3⟩ := cells4 hb hnew.out (Nat.lt_succ_self _)
            go_wp2_with fail
            have hl := laid4 (v0 := .int .i64 6) (v1 := .int .i64 0) (v2 := .string ⟨#[]⟩) (v3 := .slice A ys.length cap) ((hb.block w.heap.size (Nat.lt_succ_self _)).trans hnew.out)
            have hB := Lib.hid (ret_below' hb (v0 := .int .i64 6) (v1 := .int .i64 0) (v2 := .string ⟨#[]⟩) (v3 := .slice A ys.length cap))
            have hS := Lib.hid (sub_after hsub (W := ((((wr.setCell ⟨w.heap.size, 0, none⟩ (.int .i64 6)).setCell ⟨w.heap.size, 1, none⟩ (.int .i64 0)).setCell ⟨w.heap.size, 2, none⟩ (.string ⟨#[]⟩)).setCell ⟨w.heap.size, 3, none⟩ (.slice A ys.length cap))) (by simp) (fun p hp => put_other p hp))
            generalize ((((wr.setCell ⟨w.heap.size, 0, none⟩ (.int .i64 6)).setCell ⟨w.heap.size, 1, none⟩ (.int .i64 0)).setCell ⟨w.heap.size, 2, none⟩ (.string ⟨#[]⟩)).setCell ⟨w.heap.size, 3, none⟩ (.slice A ys.length cap)) = w2 at hl hB hS ⊢
            obtain ⟨d0, d1, d2, d3⟩ := read4 hl
            refine bodyPost_ret (v := .tuple #[.agg #[.int .i64 6, .int .i64 0, .string ⟨#[]⟩, .slice A ys.length cap], .int .i64 ((j : Int) + m), .int .i64 0]) (by simp [results, Tryd.results39, go_sem, d0, d1, d2, d3]) rfl ?_
            refine take_list (by rw [hG2.out, hE.out]; rfl) (by omega) hB.out (by omega) hS.out

end Go.Proofs.YtogbjhpkbdmllaaDoor
