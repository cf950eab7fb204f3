/-
  The walks of withKeys and Keys. A table's shape.
-/
import Derived.Test.YtdldgiicblmknaaDoorHS
namespace Go.Proofs.YtdldgiicblmknaaDoor
open Go.RowKit

theorem info_str : (Tryd.prog.info? 9).map (fun i => (i.zero, i.size, i.bytes)) = some (some (.string ⟨#[]⟩), 1, 16) := by kernel_rfl
def keyV (L : List En) : List Value := L.map fun e => .string e.2.1
theorem keyV_append (L M : List En) : keyV (L ++ M) = keyV L ++ keyV M := by simp [keyV]
theorem keyV_len (L : List En) : (keyV L).length = L.length := by simp [keyV]

set_option maxHeartbeats 2000000 in
theorem withKeys_any (base : Nat) (v : Value) (n : Nat) (xs : List Value) (L : List En) (w : World) (hown : w.ownsRow base 9 1 v n xs) (hb : base ≤ w.heap.size) (hL : ∀ wr, Below base w wr → ChainAt wr L) (hn : n + L.length ≤ 1000000) :
    Calls Tryd.prog 41 #[v, .pointer (hd L)] w fun r w' => ∃ v', r = .returned v' ∧ w'.ownsRow base 9 1 v' (n + L.length) (xs ++ keyV L) ∧ Below base w w' ∧ (v' = .slice none 0 0 ↔ v = .slice none 0 0 ∧ L = []) := by
  obtain ⟨i0, hi, hz0, hz1, hz2⟩ := info_parts info_str
  have hLH := Lib.hid hL
  have hbH := Lib.hid hb
  clear hL
  go_enter Tryd.func41, Tryd.ntmps41
  go_wp2_with fail
  go_loopg [0, 1] L.length (fun k s0 s1 wr => ∃ M R, k = R.length ∧ Hid (L = M ++ R) ∧ s1 = .pointer (hd R) ∧ Hid (wr.ownsRow base 9 1 s0 (n + M.length) (xs ++ keyV M)) ∧ Hid (Below base w wr) ∧ Hid (s0 = .slice none 0 0 ↔ v = .slice none 0 0 ∧ M = []))
  case atStart => exact ⟨[], L, rfl, Lib.hid rfl, rfl, Lib.hid (by simpa [keyV] using hown), Lib.hid (Below.refl _ _), Lib.hid (by simp)⟩
  case round =>
    obtain ⟨M, R, rfl, hMR, rfl, how, hbl, hnil⟩ := hrel
    cases R with
    | nil =>
      simp only [hd_nil]
      go_wp2_with fail
      go_ret
      have hM : L = M := by have := hMR.out; simpa using this
      exact ⟨_, rfl, by rw [hM]; exact how.out, hbl.out, by rw [hM]; exact hnil.out⟩
    | cons e R =>
      simp only [hd_cons]
      have hch : ChainAt wr (e :: R) := chain_suffix (A := M) (by rw [← hMR.out]; exact hLH.out wr hbl.out)
      obtain ⟨e0, e1, e2, _⟩ := entry_facts hch.head
      have hln : n + M.length + 1 ≤ 1000000 := by have := congrArg List.length hMR.out; simp at this; omega
      have hbs := hbl.out.size
      clear hch
      go_wp2_with (at_builtin; refine wpList_append_own _ rfl (.tmp 11) (.tmp 16) 38 rfl base 9 i0 (.string ⟨#[]⟩) 1 16 Tryd.underlying38 hi hz0 hz1 hz2 rfl (by omega) _ (n + M.length) _ rfl (how.out.alloc _) ⟨wr.heap.size, 0, none⟩ 1 1 [.string e.2.1] rfl rfl ?hnews (by simp [Value.oneCell']) (by unfold maxLen; omega) (by omega) (by simp; omega) ?hrest)
      case hnews =>
        intro j u hj
        cases j with
        | zero =>
          simp only [List.getElem?_cons_zero, Option.some.injEq] at hj
          subst hj
          exact Lib.cell_of_heap (heap_alloc_new wr _) 0
        | succ j => simp at hj
      case hrest =>
        intro v2 w2 hown2 hgrow2 hnil2
        have hb2 : Below base w w2 := ((hbl.out.alloc (by omega) _).grown hgrow2 (by simp; omega) (fun k hk => (how.out.lt k hk).1))
        have hch2 : ChainAt w2 (e :: R) := chain_suffix (A := M) (by rw [← hMR.out]; exact hLH.out w2 hb2)
        clear e0 e1 e2
        obtain ⟨e0, e1, e2, _⟩ := entry_facts hch2.head
        have hb2H := Lib.hid hb2
        have hown2H := Lib.hid hown2
        have hnil2H := Lib.hid hnil2
        clear hb2 hch2 hown2 hgrow2 hnil2
        go_wp2_with fail
        go_roundg R.length
        case measure => simp
        case rel =>
          refine ⟨M ++ [e], R, rfl, Lib.hid (by rw [hMR.out]; simp), rfl, Lib.hid ?_, hb2H, Lib.hid ?_⟩
          · have h1 := hown2H.out
            rw [keyV_append]
            have h2 : n + (M ++ [e]).length = n + M.length + 1 := by simp; omega
            rw [h2]
            exact h1
          · constructor
            · intro h; exact (hnil2H.out h).elim
            · intro h; simp at h

/-- What stands in the first places of a table. -/
def kx (X : Tb) : Nat → List En
  | 0 => []
  | 1 => X.old.flatten
  | _ => X.old.flatten ++ X.new.flatten
theorem keyV_flat (l : List (List En)) (i : Nat) (c : List En) (h : l[i]? = some c) : keyV (l.take (i + 1)).flatten = keyV (l.take i).flatten ++ keyV c := by
  rw [← keyV_append]
  congr 1
  obtain ⟨hi, hc⟩ := List.getElem?_eq_some_iff.1 h
  rw [List.take_add_one, h]
  simp

set_option maxHeartbeats 4000000 in
theorem keys_any {B : Nat} {X : Tb} {w : World} (h : Ok B X w) :
    Calls Tryd.prog 20 #[.pointer (some ⟨X.T, 0, none⟩)] w fun r w' => ∃ v', r = .returned v' ∧ w'.ownsRow w.heap.size 9 1 v' X.ents.length (keyV X.ents) ∧ Below w.heap.size w w' := by
  obtain ⟨i0, hi, hz0, hz1, hz2⟩ := info_parts info_str
  obtain ⟨c0, c1, c2, c3, c4, _⟩ := tab_facts h.live.here.tab
  have hcn := h.inv.good.ct
  have hH := Lib.hid h
  clear h
  go_enter Tryd.func20, Tryd.ntmps20
  go_wp2_with (at_make; refine wpList_make_own _ rfl _ _ 38 rfl w.heap.size 9 i0 (.string ⟨#[]⟩) 1 Tryd.underlying38 hi hz0 hz1 _ _ _ X.count rfl rfl rfl (by rw [hz2]; omega) (by unfold maxLen; omega) (Nat.le_refl _) ?hmake)
  case hmake =>
    intro w1 hown1 hgrow1
    have hb1 : Below w.heap.size w w1 := (Below.refl _ _).grown hgrow1 (Nat.le_refl _) (fun k h => by cases h)
    have hkeep : Hid (∀ wr, Below w.heap.size w wr → Here X wr) := Lib.hid fun wr hb => hH.out.live.here.on (O := []) ⟨hb.mono (Nat.zero_le _), fun k hk _ => hb.block k hk⟩ (fun _ _ => by simp)
    clear c0 c1 c2 c3 c4
    obtain ⟨c0, c1, c2, c3, c4, _⟩ := tab_facts (hkeep.out w1 hb1).tab
    have hsel : Hid (∀ j : Nat, j < 2 → ∃ (a : Option Addr) (l : List (List En)), (∀ w, Sem.run Tryd.prog (Instr.index 58 (.agg #[.slice (adr X.p0) X.old.length X.old.length, .slice (adr X.p1) X.new.length X.new.length]) (.int .i64 (j : Int))) w = .ok (.slice a l.length l.length) w) ∧ (∀ wr, Below w.heap.size w wr → HalfAt wr a l) ∧ l.length ≤ 65536 ∧ kx X (j + 1) = kx X j ++ l.flatten) := Lib.hid (by
      intro j hj
      obtain ⟨k0, hk0⟩ := hH.out.inv.good.s0
      obtain ⟨k1, hk1⟩ := hH.out.inv.good.s1
      rcases j with _ | _ | j
      · exact ⟨adr X.p0, X.old, fun w => run_half _ _ 0 (by omega) w, fun wr hb => (hkeep.out wr hb).half0, hk0.le, by simp [kx]⟩
      · exact ⟨adr X.p1, X.new, fun w => run_half _ _ 1 (by omega) w, fun wr hb => (hkeep.out wr hb).half1, hk1.le, by simp [kx]⟩
      · omega)
    have hlen : Hid (∀ j, j ≤ 2 → (kx X j).length ≤ 1000000) := Lib.hid (by
      intro j hj
      have h1 := hH.out.inv.cnt
      have h2 : X.ents.length = X.old.flatten.length + X.new.flatten.length := by unfold Tb.ents; rw [hH.out.inv.ext]; simp
      rcases j with _ | _ | _ | j
      · simp [kx]
      · simp only [kx]; omega
      · simp only [kx, List.length_append]; omega
      · omega)
    have hend : Hid (kx X 2 = X.ents) := Lib.hid (by unfold Tb.ents; rw [hH.out.inv.ext]; simp [kx])
    have hb1H := Lib.hid hb1
    have hown1H := Lib.hid hown1
    clear hb1 hown1 hgrow1 hH
    go_wp2_with fail
    go_loopw [3, 5, 7, 19, 22, 23, 24] (fun s3 s5 s7 s19 s22 s23 s24 wr => ∃ j : Nat, j ≤ 2 ∧ s19 = .int .i64 j ∧ Hid (wr.ownsRow w.heap.size 9 1 s3 (kx X j).length (keyV (kx X j))) ∧ Hid (Below w.heap.size w wr)) (fun s3 s5 s7 s19 s22 s23 s24 _ => 2 - (intOf s19).toNat)
    case atStart => exact ⟨0, by omega, rfl, hown1H, hb1H⟩
    case round =>
      obtain ⟨j, hj, rfl, how, hbl⟩ := hrel
      by_cases hlt : j < 2
      · obtain ⟨a, l, hrun, hhalf, hle, hkx⟩ := hsel.out j hlt
        have hdj : decide ((j : Int) < 2) = true := by simp; omega
        have hkxH := Lib.hid hkx
        have hrunw := hrun wr
        have hhalfH := Lib.hid hhalf
        clear hrun hkx hhalf
        go_wp2_with fail
        go_loopw [3, 7, 24] (fun s3 s7 s24 wr2 => ∃ i : Nat, i ≤ l.length ∧ s24 = .int .i64 i ∧ Hid (wr2.ownsRow w.heap.size 9 1 s3 (kx X j ++ (l.take i).flatten).length (keyV (kx X j ++ (l.take i).flatten))) ∧ Hid (Below w.heap.size w wr2)) (fun s3 s7 s24 _ => l.length - (intOf s24).toNat)
        case atStart => exact ⟨0, Nat.zero_le _, rfl, by simpa using how, hbl⟩
        case round =>
          obtain ⟨i, hil, rfl, how2, hbl2⟩ := hrel
          by_cases hi2 : i < l.length
          · obtain ⟨c, hc⟩ : ∃ c, l[i]? = some c := ⟨_, List.getElem?_eq_getElem hi2⟩
            rcases hhalfH.out _ hbl2.out with ⟨_, h0⟩ | ⟨b, rfl, _, hpl, _⟩
            · rw [h0] at hi2; simp at hi2
            · have hcell := (pl_cell hpl hc).1
              have hkf := Lib.hid (keyV_flat l i c hc)
              have hln : (kx X j ++ (l.take i).flatten).length + c.length ≤ 1000000 := by
                have h1 := hlen.out (j + 1) (by omega)
                rw [hkxH.out, List.length_append] at h1
                have h2 : (l.take i).flatten.length + c.length ≤ l.flatten.length := by
                  have h3 : l.flatten = (l.take i).flatten ++ (l.drop i).flatten := by rw [← List.flatten_append, List.take_append_drop]
                  have h4 : l.drop i = c :: l.drop (i + 1) := by
                    obtain ⟨hi3, hc3⟩ := List.getElem?_eq_some_iff.1 hc
                    rw [List.drop_eq_getElem_cons hi3, hc3]
                  rw [h3, h4]; simp
                rw [List.length_append]; omega
              have hwk := Lib.hid (withKeys_any w.heap.size _ _ _ c _ how2.out hbl2.out.size (fun w4 hb4 => by
                rcases hhalfH.out w4 (hbl2.out.trans hb4) with ⟨_, h0⟩ | ⟨_, _, _, _, hch⟩
                · rw [h0] at hi2; simp at hi2
                · exact hch c (List.mem_of_getElem? hc)) hln)
              have hcl := Lib.hid (show (kx X j ++ (l.take (i + 1)).flatten).length = (kx X j ++ (l.take i).flatten).length + c.length by
                have := congrArg List.length (keyV_flat l i c hc)
                simp only [keyV_len, List.length_append] at this ⊢
                omega)
              clear hpl hln hc
              go_wp2_with (go_at_call 41; ((with_reducible refine (hwk.out).mono ?_); rintro r w3 ⟨v3, rfl, how3, hb3, _⟩))
              have how3H := Lib.hid how3
              have hb3H := Lib.hid hb3
              clear how3 hb3
              go_wp2_with fail
              go_roundw
              case rel =>
                refine ⟨i + 1, by omega, by go_num, Lib.hid ?_, Lib.hid (hbl2.out.trans hb3H.out)⟩
                have h5 := how3H.out
                rw [hcl.out, keyV_append, hkf.out, ← List.append_assoc, ← keyV_append]
                exact h5
              case measure => simp [intOf]; omega
          · have hil2 : i = l.length := by omega
            subst hil2
            have hnext := Lib.hid how2.out
            rw [List.take_length, ← hkxH.out] at hnext
            clear how2
            go_wp2_with fail
            go_roundw
            case rel => exact ⟨j + 1, by omega, by go_num, hnext, hbl2⟩
            case measure => simp [intOf]; omega
      · have hj2 : j = 2 := by omega
        subst hj2
        go_wp2_with fail
        go_ret
        exact ⟨_, rfl, by have := how.out; rw [hend.out] at this; exact this, hbl.out⟩

end Go.Proofs.YtdldgiicblmknaaDoor
