/-
  The law Counts: without halving a count is how often a key was touched since it came, at most 255.
-/
import Derived.Test.YtpbmgaipeofpaaaY
namespace Go.Proofs.Ytpbmgaipeofpaaa
open Go.RowKit

theorem cntF_tip (R : List Sc) (k x : ByteArray) : cntF (tipF R k) x = if x = k then upF (cntF R k) else cntF R x := by
  have h1 : ∀ y, y = k → (goF R k).find? (fun z => decide (z.1 = y)) = none := fun y hy => by
    subst hy
    rw [List.find?_eq_none]
    intro z hz
    have := (mem_goF.1 hz).2
    simpa using this
  by_cases hx : x = k
  · rw [if_pos hx]
    have e : cntF (tipF R k) x = match (tipF R k).find? (fun z => decide (z.1 = x)) with | some z => z.2 | none => 0 := rfl
    rw [e]
    unfold tipF
    rw [List.find?_append, h1 x hx]
    subst hx
    simp
  · rw [if_neg hx]
    unfold cntF tipF
    rw [List.find?_append]
    have h2 : (goF R k).find? (fun z => decide (z.1 = x)) = R.find? (fun z => decide (z.1 = x)) := by
      unfold goF
      rw [List.find?_filter]
      congr 1
      funext z
      by_cases hz : z.1 = x
      · have : z.1 ≠ k := fun e => hx (hz ▸ e)
        simp [hz, hx]
      · simp [hz]
    rw [h2]
    have h3 : ([(k, upF (cntF R k))] : List Sc).find? (fun z => decide (z.1 = x)) = none := by
      simp [Ne.symm hx]
    rw [h3, Option.or_none]
/-- Keys touched one behind the other. -/
def tapF (K : List ByteArray) : List Sc := K.foldl tipF []
theorem tapF_snoc (K : List ByteArray) (k : ByteArray) : tapF (K ++ [k]) = tipF (tapF K) k := by unfold tapF; rw [List.foldl_append]; rfl
def occF (K : List ByteArray) (k : ByteArray) : Nat := (K.filter fun x => decide (x = k)).length
theorem occF_snoc (K : List ByteArray) (y k : ByteArray) : occF (K ++ [y]) k = occF K k + if y = k then 1 else 0 := by
  unfold occF
  rw [List.filter_append, List.length_append]
  by_cases h : y = k <;> simp [h]
theorem occF_le (K : List ByteArray) (k : ByteArray) : occF K k ≤ K.length := List.length_filter_le _ _
theorem keys_ind {p : List ByteArray → Prop} (h0 : p []) (h1 : ∀ l o, p l → p (l ++ [o])) (l : List ByteArray) : p l := by
  have : ∀ m : List ByteArray, p m.reverse := fun m => by
    induction m with
    | nil => exact h0
    | cons a m ih => rw [List.reverse_cons]; exact h1 _ _ ih
  rw [← List.reverse_reverse l]
  exact this _
theorem tapF_cnt (K : List ByteArray) : K.length ≤ 254 → ∀ x, cntF (tapF K) x = (occF K x : Int) := by
  refine keys_ind (p := fun K => K.length ≤ 254 → ∀ x, cntF (tapF K) x = (occF K x : Int)) (fun _ x => rfl) (fun l o h hl x => ?_) K
  simp only [List.length_append, List.length_cons, List.length_nil] at hl
  have h2 := h (by omega)
  rw [tapF_snoc, cntF_tip, occF_snoc]
  by_cases hx : x = o
  · subst hx
    rw [if_pos rfl, if_pos rfl, h2]
    have := occF_le l x
    unfold upF
    rw [if_neg (by omega)]
    omega
  · rw [if_neg hx, if_neg (fun e => hx e.symm), h2]
    simp
theorem tapF_le (K : List ByteArray) : (tapF K).length ≤ K.length :=
  keys_ind (p := fun K => (tapF K).length ≤ K.length) (by simp [tapF]) (fun l o h => by
    rw [tapF_snoc]
    have := tipF_le (tapF l) o
    simp
    omega) K
/-- Keys that are handed over, as they are read. -/
def KeysAt (w : World) (B : Nat) (A : Option Addr) (K : List ByteArray) : Prop := ∀ i x, K[i]? = some x → ∃ a, A = some a ∧ a.block < B ∧ w.cell? (a.add i) = some (.string x)
theorem KeysAt.on {w w' : World} {A : Option Addr} {K : List ByteArray} {B : Nat} (h : KeysAt w B A K) (hb : Below B w w') : KeysAt w' B A K := by
  intro i x hx
  obtain ⟨a, rfl, h1, h2⟩ := h i x hx
  exact ⟨a, rfl, h1, (hb.cell (by rw [add_block]; exact h1)).trans h2⟩
theorem run_ixK (a : Addr) (k n c : Nat) (hk : k < n) (w : World) : Sem.run Try.prog (Instr.indexAt 39 (.slice (some a) n c) (.int .i64 (k : Int))) w = .ok (.pointer (some (a.add k))) w := by
  go_simp
theorem run_cutK (a : Addr) (k n c : Nat) (hk : k ≤ n) (hc : n ≤ c) (w : World) : (Instr.slice 39 (.slice (some a) n c) none (some (.int .i64 (k : Int))) none).run Try.prog w = .ok (.slice (some a) k c) w := by
  rw [run_slice_h (P := Try.prog) w 39 (some a) n c (by kernel_rfl) .i64 (k : Int) (by omega) (by omega)]
  simp only [Int.toNat_natCast]
  obtain ⟨i, hi, _, hz, _⟩ := info_partsS info_str
  have hel : Try.prog.elem 39 = 9 := by kernel_rfl
  rw [hel]
  have hs : sliced (some a) 0 k c 1 = .slice (some a) k c := by
    unfold sliced; split <;> simp [Addr.add]
  simp [sizeOf, typeInfo, hi, hz, Result.andThen, hs]
theorem u64_rem (x : Int) (h1 : -9223372036854775808 ≤ x) (h2 : x ≤ 9223372036854775807) : ∃ N : Nat, N < 300 ∧ (IntKind.u64.wrap x).tmod 300 = (N : Int) := by
  have h0 : 0 ≤ IntKind.u64.wrap x := by
    by_cases hx : 0 ≤ x
    · rw [show IntKind.u64.wrap x = x from IntWalk.u64_in _ (by omega)]
      exact hx
    · rw [show IntKind.u64.wrap x = x + 18446744073709551616 from by
        simp [IntKind.wrap, IntKind.bits, IntKind.signed]
        omega]
      omega
  rw [Int.tmod_eq_emod_of_nonneg h0]
  exact ⟨(IntKind.u64.wrap x % 300).toNat, by omega, by omega⟩
set_option maxRecDepth 100000 in
set_option maxHeartbeats 64000000 in
theorem counts_any (w : World) (A : Option Addr) (c : Nat) (K : List ByteArray) (n0 : Int) (hK : KeysAt w w.heap.size A K) (hsz : ∀ k ∈ K, k.size ≤ maxLen) (hlc : K.length ≤ c) (hl : K.length ≤ 140737488355328) (hn1 : -9223372036854775808 ≤ n0) (hn2 : n0 ≤ 9223372036854775807) :
    Calls Try.prog 5 #[.slice A K.length c, .int .i64 n0] w fun e w' => e = .returned (.bool true) ∧ Below w.heap.size w w' := by
  have hal : Hid (∀ W, Only [] w W → Calls Try.prog 8 #[] W fun e w' => e = .returned (.bool true) ∧ Only [] w w') := Lib.hid (fun W h => (alive_any W).mono fun _ _ ⟨he, ho⟩ => ⟨he, only_nil h ho⟩)
  by_cases h50 : 50 < K.length
  · have hd : decide ((50 : Int) < (K.length : Int)) = true := decide_eq_true (by omega)
    have hd2 : decide (50 < K.length) = true := decide_eq_true h50
    clear hK hsz hlc hl h50 hn1 hn2
    generalize K.length = n at *
    go_enter Try.func5, Try.ntmps5
    go_wp2_with (go_at_call 8; ((with_reducible refine (hal.out _ (Only.refl _ _)).mono ?_); rintro e w3 ⟨rfl, h3⟩; have h3H := Lib.hid h3; clear h3))
    all_goals go_ret
    exact ⟨rfl, h3H.out.below (Nat.le_refl _) (by simp)⟩
  · obtain ⟨N, hN, hNe⟩ := u64_rem n0 hn1 hn2
    have hd : decide ((50 : Int) < (K.length : Int)) = false := decide_eq_false (by omega)
    have hd2 : decide (50 < K.length) = false := decide_eq_false h50
    have hKH := Lib.hid hK
    have hsH := Lib.hid hsz
    obtain ⟨n, hnn⟩ : ∃ n, n = K.length := ⟨_, rfl⟩
    have hnH := Lib.hid hnn
    rw [← hnn] at hd hd2 hlc h50 ⊢
    have hn50 : n ≤ 50 := by omega
    have hnew := Lib.hid (pl_new (Only.refl [] w))
    have hwN := wrap_small (x := (N : Int)) (by omega)
    have hlcH := Lib.hid hlc
    clear hK hsz hl hnn h50 hn1 hn2 hlc
    go_enter Try.func5, Try.ntmps5
    go_upto_region 6 with (go_at_call 9; ((with_reducible refine (hnew.out).mono ?_); rintro e w3 ⟨D, O3, rfl, h3, _⟩; have h3H := Lib.hid h3; clear h3))
    clear hnew
    go_loopw [23] (fun s23 wr => ∃ i : Nat, i ≤ n ∧ s23 = .int .i64 i ∧ Hid (∃ O, Pl w wr D O (tapF (K.take i)))) (fun s23 _ => n - (intOf s23).toNat)
    case atStart => exact ⟨0, by omega, rfl, Lib.hid ⟨O3, h3H.out⟩⟩
    case round =>
      obtain ⟨i, hi, rfl, hT⟩ := hrel
      by_cases hil : i < n
      · obtain ⟨k, hk⟩ : ∃ k, K[i]? = some k := ⟨_, List.getElem?_eq_getElem (by have := hnH.out; omega)⟩
        obtain ⟨O, hT1⟩ := hT.out
        obtain ⟨a, rfl, _, z0⟩ := hKH.out.on (hT1.most.below (Nat.le_refl _) (by simp)) i k hk
        have hks := hsH.out k (List.mem_of_getElem? hk)
        have hilH := Lib.hid hil
        have hix := run_ixK a i n c hil
        have hlt : decide ((i : Int) < (n : Int)) = true := decide_eq_true (by omega)
        have hltn : decide (i < n) = true := decide_eq_true hil
        have hwk := wrap_small (x := (i : Int) + 1) (by omega)
        by_cases h200 : 200 < k.size
        · have hd3 : decide ((200 : Int) < (k.size : Int)) = true := decide_eq_true (by omega)
          have hd4 : decide (200 < k.size) = true := decide_eq_true h200
          have hm1 := Lib.hid hT1.most
          clear hk hT1 hT h200 hil hks
          go_wp2_with (go_at_call 8; ((with_reducible refine (hal.out _ hm1.out).mono ?_); rintro e w4 ⟨rfl, h4⟩; have h4H := Lib.hid h4; clear h4))
          all_goals go_ret
          exact ⟨rfl, h4H.out.below (Nat.le_refl _) (by simp)⟩
        · have hd3 : decide ((200 : Int) < (k.size : Int)) = false := decide_eq_false (by omega)
          have hd4 : decide (200 < k.size) = false := decide_eq_false h200
          have hcut : ∀ w, (Instr.slice 39 (.slice (some a) n c) none (some (.int .i64 ((i : Int) + 1))) none).run Try.prog w = .ok (.slice (some a) (i + 1) c) w := fun w => by
            have := run_cutK a (i + 1) n c (by omega) hlcH.out w
            rwa [show (((i + 1 : Nat)) : Int) = (i : Int) + 1 by omega] at this
          have hS1 := hT1.touch (by have := tapF_le (K.take i); rw [List.length_take] at this; omega) k hks
          have htk : K.take i ++ [k] = K.take (i + 1) := by rw [List.take_add_one, hk]; rfl
          have hcn : upF (cntF (tapF (K.take i)) k) = (occF (K.take (i + 1)) k : Int) := by
            have h1 := tapF_cnt (K.take (i + 1)) (by rw [List.length_take]; omega) k
            rw [← htk, tapF_snoc, cntF_tip, if_pos rfl] at h1
            rw [htk] at h1
            exact h1
          rw [hcn, ← tapF_snoc, htk] at hS1
          have hS1H := Lib.hid (fun W (hW : Only [] wr W) => (show Pl w W D O (tapF (K.take i)) from hT1.same hW))
          have hTo : Hid (∀ W, Only [] wr W → Calls Try.prog 10 #[.pointer (some ⟨D, 0, none⟩), .string k] W fun e w' => e = .returned (.int .i64 ((occF (K.take (i + 1)) k : Nat) : Int)) ∧ ∃ O', Pl w w' D O' (tapF (K.take (i + 1)))) := Lib.hid (fun W hW => by
            have h1 := (hT1.same hW).touch (by have := tapF_le (K.take i); rw [List.length_take] at this; omega) k hks
            rw [hcn, ← tapF_snoc, htk] at h1
            exact h1.mono fun _ _ ⟨he, O', h2, _⟩ => ⟨he, O', h2⟩)
          have hstep : Hid (∀ (q : Nat) (y : ByteArray), q < i + 1 → K[q]? = some y → occF (K.take (q + 1)) k = occF (K.take q) k + if y = k then 1 else 0) := Lib.hid (fun q y _ hy => by
            rw [List.take_add_one, hy]
            exact occF_snoc _ _ _)
          have hocc : Hid (∀ q : Nat, occF (K.take q) k ≤ 50) := Lib.hid (fun q => by
            have := occF_le (K.take q) k
            rw [List.length_take] at this
            have := hnH.out
            omega)
          have hrd : Hid (∀ (W : World) (q : Nat), Only [] wr W → q < i + 1 → ∃ y, K[q]? = some y ∧ W.cell? (a.add q) = some (.string y)) := Lib.hid (fun W q hW hq => by
            obtain ⟨y, hy⟩ : ∃ y, K[q]? = some y := ⟨_, List.getElem?_eq_getElem (by have := hnH.out; omega)⟩
            obtain ⟨a', ha', _, hz⟩ := hKH.out.on ((only_nil hT1.most hW).below (Nat.le_refl _) (by simp)) q y hy
            cases ha'
            exact ⟨y, hy, hz⟩)
          have hii : Hid (i + 1 ≤ n ∧ n ≤ c) := Lib.hid ⟨by omega, hlcH.out⟩
          clear hk hT1 hT h200 hil hks hS1 hS1H htk hcn
          go_upto_region 12 with fail
          obtain ⟨i1, hi1⟩ : ∃ i1, i1 = i + 1 := ⟨_, rfl⟩
          have hi1H := Lib.hid hi1
          have hic : ((i : Int) + 1) = (i1 : Int) := by omega
          have hi51 : i1 ≤ 50 := by have := hii.out; omega
          rw [← hi1] at hTo hstep hrd hii ⊢
          clear hi1 hwk hcut
          go_loopw [8, 37] (fun s8 s37 w4 => ∃ q t : Nat, q ≤ i1 ∧ s37 = .int .i64 q ∧ s8 = .int .i64 (t : Int) ∧ Hid (t = occF (K.take q) k) ∧ Hid (Only [] wr w4)) (fun _ s37 _ => i1 - (intOf s37).toNat)
          case atStart => exact ⟨0, 0, by omega, rfl, rfl, Lib.hid rfl, Lib.hid (Only.refl _ _)⟩
          case round =>
            obtain ⟨q, t, hq, rfl, rfl, ht, hon⟩ := hrel
            by_cases hqi : q < i1
            · obtain ⟨y, hy, zq⟩ := hrd.out _ q hon.out hqi
              have hst := Lib.hid (hstep.out q y hqi hy)
              have hixq := run_ixK a q i1 c hqi
              have hqiH := Lib.hid hqi
              have hltq : decide ((q : Int) < (i1 : Int)) = true := decide_eq_true (by omega)
              have hltm : decide (q < i1) = true := decide_eq_true hqi
              have hwq := wrap_small (x := (q : Int) + 1) (by omega)
              have ht50 : t ≤ 50 := by rw [ht.out]; exact hocc.out q
              have hwt := wrap_small (x := (t : Int) + 1) (by omega)
              clear hy hqi ht50
              by_cases hyk : y = k
              · subst hyk
                have hbq : (y.toList == y.toList) = true := by simp
                rw [if_pos rfl] at hst
                go_wp2_with fail
                go_roundw
                case rel => exact ⟨q + 1, t + 1, by have := hqiH.out; omega, by go_num, by go_num, Lib.hid (by rw [hst.out, ht.out]), hon⟩
                case measure => have := hqiH.out; simp [intOf]; omega
              · have hbq := key_ne hyk
                rw [if_neg hyk] at hst
                clear hyk
                go_wp2_with fail
                go_roundw
                case rel => exact ⟨q + 1, t, by have := hqiH.out; omega, by go_num, rfl, Lib.hid (by rw [hst.out, ht.out]; rfl), hon⟩
                case measure => have := hqiH.out; simp [intOf]; omega
            · have hqe : q = i1 := by omega
              have hte := ht.out
              rw [hqe] at hte
              have hTw := hTo.out _ hon.out
              rw [← hte] at hTw
              have hTwH := Lib.hid hTw
              have htt : ((t : Int) == (t : Int)) = true := by simp
              clear hTw hte ht hTo
              subst hqe
              go_wp2_with (go_at_call 10; ((with_reducible refine (hTwH.out).mono ?_); rintro e w5 ⟨rfl, hq5⟩; have hq5H := Lib.hid hq5; clear hq5))
              go_roundw
              case rel => exact ⟨i + 1, by have := hilH.out; omega, by go_num, Lib.hid (by rw [← hi1H.out]; exact hq5H.out)⟩
              case measure => have := hilH.out; simp [intOf]; omega
      · have hin : i = n := by omega
        subst hin
        clear hil hi
        obtain ⟨O, hT1⟩ := hT.out
        rw [hnH.out, List.take_length] at hT1
        cases hKc : K with
        | nil =>
          have hn0 : i = 0 := by rw [hnH.out, hKc]; rfl
          have hm1 := Lib.hid hT1.most
          subst hn0
          clear hT1 hT hKc
          go_wp2_with (go_at_call 8; ((with_reducible refine (hal.out _ hm1.out).mono ?_); rintro e w4 ⟨rfl, h4⟩; have h4H := Lib.hid h4; clear h4))
          all_goals go_ret
          exact ⟨rfl, h4H.out.below (Nat.le_refl _) (by simp)⟩
        | cons k0 K0 =>
          have hn0 : 0 < i := by rw [hnH.out, hKc]; simp
          have hk0 : K[0]? = some k0 := by rw [hKc]; rfl
          have hks := hsH.out k0 (List.mem_of_getElem? hk0)
          obtain ⟨a, rfl, _, _⟩ := hKH.out 0 k0 hk0
          have hz0 : Hid (∀ W, Only [] w W → W.cell? (a.add 0) = some (.string k0)) := Lib.hid (fun W hW => by
            obtain ⟨a', ha', _, hz⟩ := hKH.out.on (hW.below (Nat.le_refl _) (by simp)) 0 k0 hk0
            cases ha'
            exact hz)
          have hix : ∀ w, Sem.run Try.prog (Instr.indexAt 39 (.slice (some a) i c) (.int .i64 0)) w = .ok (.pointer (some (a.add 0))) w := fun w => run_ixK a 0 i c hn0 w
          have hzn : ((i : Int) == 0) = false := beq_false_of_ne (by omega)
          generalize a.add 0 = a0 at *
          obtain ⟨R, hR⟩ : ∃ R, R = tapF K := ⟨_, rfl⟩
          have hRl : Hid (R.length ≤ 50) := Lib.hid (by have := tapF_le K; have := hnH.out; rw [hR]; omega)
          rw [← hR] at hT1
          obtain ⟨t, ht⟩ : ∃ t, t = cntF R k0 := ⟨_, rfl⟩
          have hrng := cntF_range hT1.cnt k0
          rw [← ht] at hrng
          have hCn := hT1.count k0 hks
          rw [← ht] at hCn
          have hCnH := Lib.hid hCn
          have hT1H := Lib.hid hT1
          have hksH := Lib.hid hks
          have htH := Lib.hid ht
          have hz := hz0.out _ hT1.most
          clear hn0 hk0 hks hR hT1 hT hKc hCn ht hKH hsH
          go_upto_region 24 with (go_at_call 17; ((with_reducible refine (hCnH.out).mono ?_); rintro e w4 ⟨rfl, ho4⟩; have hT4 := Lib.hid (hT1H.out.same ho4); clear ho4))
          clear hCnH hT1H hz
          go_loopw [63] (fun s63 w5 => ∃ q : Nat, q ≤ N ∧ s63 = .int .i64 q ∧ Hid (∃ O' R', Pl w w5 D O' R' ∧ R'.length ≤ 50 + q ∧ cntF R' k0 = if 255 < t + q then 255 else t + q)) (fun s63 _ => N - (intOf s63).toNat)
          case atStart => exact ⟨0, by omega, rfl, Lib.hid ⟨O, R, hT4.out, hRl.out, by rw [← htH.out, if_neg (by omega)]; simp⟩⟩
          case round =>
            obtain ⟨q, hq, rfl, hS⟩ := hrel
            obtain ⟨O', R', k1, k2, k3⟩ := hS.out
            have hz := hz0.out _ k1.most
            by_cases hqN : q < N
            · have hTo := Lib.hid (k1.touch (by omega) k0 hksH.out)
              have hup : Hid (upF (cntF R' k0) = if 255 < t + ((q + 1 : Nat) : Int) then 255 else t + ((q + 1 : Nat) : Int)) := Lib.hid (by
                rw [k3]
                unfold upF
                split <;> split <;> split <;> omega)
              have hlen := Lib.hid (tipF_le R' k0)
              have hk2 := Lib.hid k2
              have hqH := Lib.hid hqN
              have hltq : decide ((q : Int) < (N : Int)) = true := decide_eq_true (by omega)
              have hltm : decide (q < N) = true := decide_eq_true hqN
              have hwq := wrap_small (x := (q : Int) + 1) (by omega)
              clear k1 k2 k3 hqN hS
              go_wp2_with (go_at_call 10; ((with_reducible refine (hTo.out).mono ?_); rintro e w6 ⟨rfl, O6, h6, _⟩; have h6H := Lib.hid h6; clear h6))
              go_roundw
              case rel => exact ⟨q + 1, by have := hqH.out; omega, by go_num, Lib.hid ⟨O6, _, h6H.out, by have := hlen.out; have := hk2.out; omega, by rw [cntF_tip, if_pos rfl]; exact hup.out⟩⟩
              case measure => have := hqH.out; simp [intOf]; omega
            · have hqe : q = N := by omega
              subst hqe
              have hC2 := k1.count k0 hksH.out
              rw [k3] at hC2
              have k1H := Lib.hid k1
              have hwt := wrap_small (x := t + (q : Int)) (by omega)
              by_cases h255 : 255 < t + (q : Int)
              · rw [if_pos h255] at hC2
                have hC2H := Lib.hid hC2
                clear k1 k2 k3 hqN hS hC2 hq hrng
                go_wp2_with (first
                  | (go_at_call 17; ((with_reducible refine (hC2H.out).mono ?_); rintro e w7 ⟨rfl, ho7⟩; have h7 := k1H.out.same ho7; have hm7 := Lib.hid h7.most; clear h7 ho7))
                  | (go_at_call 8; ((with_reducible refine (hal.out _ hm7.out).mono ?_); rintro e w8 ⟨rfl, h8⟩; have h8H := Lib.hid h8; clear h8)))
                all_goals go_ret
                exact ⟨rfl, h8H.out.below (Nat.le_refl _) (by simp)⟩
              · rw [if_neg h255] at hC2
                have hC2H := Lib.hid hC2
                have htq : (t + (q : Int) == t + (q : Int)) = true := by simp
                clear k1 k2 k3 hqN hS hC2 hq hrng
                go_wp2_with (first
                  | (go_at_call 17; ((with_reducible refine (hC2H.out).mono ?_); rintro e w7 ⟨rfl, ho7⟩; have h7 := k1H.out.same ho7; have hm7 := Lib.hid h7.most; clear h7 ho7))
                  | (go_at_call 8; ((with_reducible refine (hal.out _ hm7.out).mono ?_); rintro e w8 ⟨rfl, h8⟩; have h8H := Lib.hid h8; clear h8)))
                all_goals go_ret
                exact ⟨rfl, h8H.out.below (Nat.le_refl _) (by simp)⟩
end Go.Proofs.Ytpbmgaipeofpaaa
