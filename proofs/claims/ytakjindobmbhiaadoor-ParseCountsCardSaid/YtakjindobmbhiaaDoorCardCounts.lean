/-
  Proved: ParseCounts returns true, whatever its arguments; each argument reads behind the call as it read before. The tied card: the listed tables and errors of Go's library hold what the program's text lays.
-/
import Derived.Test.YtakjindobmbhiaaDoorFrame
import Derived.Test.YtakjindobmbhiaaDoorQT
import Derived.Deep.Slices
namespace Go.Proofs.YtakjindobmbhiaaDoor.parseCounts
open Go.ChangeShapes Go.WideShapes Go.ChangeAt Go.RowKit S4 Go.Deep

theorem bytes9 : Tryd.prog.bytesOf 9 = 16 := by kernel_rfl
theorem cells3 : Tryd.prog.cellsOf 3 = 1 := by kernel_rfl
theorem cellsL : Tryd.prog.cellsOf 24 = 3 := by kernel_rfl
theorem strings_read {W : World} {a : Addr} {ss : List ByteArray} {n : Nat} (h : ∀ i, i < ss.length → W.cell? (a.add i) = some (.string (ss.getD i ByteArray.empty))) : SOk W Tr (some a) (ss.take n) := by
  intro i x hx
  rw [List.getElem?_take] at hx
  split at hx
  · obtain ⟨hi, rfl⟩ := List.getElem?_eq_some_iff.1 hx
    have hc := h i hi
    rw [List.getD, List.getElem?_eq_getElem hi] at hc
    refine ⟨a, rfl, trivial, ?_, hc⟩
    have := block_lt_of_cell hc
    rwa [block_of_add] at this
  · cases hx
theorem bytesR : Tryd.prog.bytesOf 22 = 24 := by kernel_rfl
theorem cellsR : Tryd.prog.cellsOf 22 = 1 := by kernel_rfl
theorem all_weights {H : Type} {P : Program} {e : TypeId} : ∀ {l : List (DataW H)} {d : DataW H}, d ∈ l → ∀ n ∈ d.weights P e, n ∈ DataW.weightsAll P e l
  | [], _, h, _, _ => by cases h
  | x :: r, d, h, n, hn => by
    simp only [DataW.weightsAll, List.mem_append]
    rcases List.mem_cons.1 h with rfl | h
    · exact Or.inl hn
    · exact Or.inr (all_weights h n hn)
theorem row_read {H : Type} {enc : TypeId × Value → H} {W : World} {v : Value} {fuel : Nat} {x : DataW H × List MemPlace} (h : DataW.trod enc Tryd.prog W 0 (fun _ => true) true fuel 22 [v] = some x) (hw : ∀ n ∈ x.1.weights Tryd.prog 22, n ≤ reachBytes) :
    ∃ l : List ByteArray, ∃ A c, v = .slice A l.length c ∧ SOk W Tr A l ∧ l.length ≤ 140737488355328 := by
  rcases open_strings Tryd.underlying22 Tryd.underlying9 cells9 h with ⟨hcs, hx⟩ | ⟨a, len', cap', ss, hcs, _, hl, hm, hs, hx, hcell, hws⟩
  · simp at hcs
    exact ⟨[], none, 0, hcs, (fun i x h => by simp at h : SOk W Tr none []), by decide⟩
  · simp at hcs
    subst hcs
    simp only [if_true] at hs
    have hlen : (ss.take len').length = len' := by rw [List.length_take]; omega
    have hx1 : x.1 = .slice (strs (ss.take len')) (strs (ss.drop len')) := congrArg Prod.fst hx
    rw [hx1] at hw
    have hwl := hw (((strs (H := H) (ss.take len')).length + (strs (H := H) (ss.drop len')).length) * Tryd.prog.bytesOf 9) (by simp [DataW.weights, Tryd.underlying22])
    rw [bytes9] at hwl
    refine ⟨ss.take len', some a, cap', by rw [hlen], strings_read hcell, ?_⟩
    have e1 : (strs (H := H) (ss.take len')).length = (ss.take len').length := by simp [strs]
    rw [e1, hlen] at hwl
    rw [hlen]
    unfold reachBytes at hwl
    omega
theorem rows_read {H : Type} {enc : TypeId × Value → H} {W : World} {a : Addr} {V : Nat → Value} {D : Nat → DataW H} {Pl : Nat → List MemPlace} {fuel len : Nat} (hx : ∀ i, i < len → W.cell? (a.add i) = some (V i) ∧ DataW.trod enc Tryd.prog W 0 (fun _ => true) true fuel 22 [V i] = some (D i, Pl i)) (hw : ∀ i, i < len → ∀ n ∈ (D i).weights Tryd.prog 22, n ≤ reachBytes) :
    ∃ ls : List (List ByteArray), ls.length = len ∧ SSOk W (some a) ls := by
  obtain ⟨f, hf⟩ := choose_lt (α := List ByteArray) (p := fun i l => ∃ A c, V i = .slice A l.length c ∧ SOk W Tr A l ∧ l.length ≤ 140737488355328) (fun i hi => row_read (hx i hi).2 (hw i hi))
  refine ⟨(List.range len).map f, by simp, ?_⟩
  intro i l hl
  simp only [List.getElem?_map, Option.map_eq_some_iff] at hl
  obtain ⟨j, hj, rfl⟩ := hl
  obtain ⟨hi, e⟩ := List.getElem?_eq_some_iff.1 hj
  simp at e hi
  subst e
  obtain ⟨A, c, hV, hS, hL⟩ := hf i hi
  have hc := (hx i hi).1
  have hb := block_lt_of_cell hc
  rw [block_of_add] at hb
  exact ⟨a, A, c, rfl, hb, hc.trans (by rw [hV]), hS, hL⟩
set_option maxRecDepth 100000 in
theorem limits_open {H : Type} {enc : TypeId × Value → H} {W : World} {cs : Array Value} {fuel : Nat} {x : DataW H × List MemPlace} (h : DataW.trod enc Tryd.prog W 0 (fun _ => true) true fuel 24 cs.toList = some x) : ∃ a b l : Int, cs = #[.int .i64 a, .int .i64 b, .int .i64 l] := by
  obtain ⟨xs, m, hm, rfl, hl, hlen, hf⟩ := DataW.trod_struct Tryd.underlying24 h
  rw [cellsL] at hl
  obtain ⟨cl⟩ := cs
  match cl, hl with
  | [c0, c1, c2], _ =>
  match xs, hlen with
  | [y0, y1, y2], _ =>
  have g0 : DataW.trod enc Tryd.prog W 0 (fun _ => true) true m 3 [c0] = some y0 := by simpa [cells3] using hf 0 _ rfl
  have g1 : DataW.trod enc Tryd.prog W 0 (fun _ => true) true m 3 [c1] = some y1 := by simpa [cells3] using hf 1 _ rfl
  have g2 : DataW.trod enc Tryd.prog W 0 (fun _ => true) true m 3 [c2] = some y2 := by simpa [cells3] using hf 2 _ rfl
  obtain ⟨a, k0, _⟩ := DataW.trod_int Tryd.underlying3 g0
  obtain ⟨b, k1, _⟩ := DataW.trod_int Tryd.underlying3 g1
  obtain ⟨l, k2, _⟩ := DataW.trod_int Tryd.underlying3 g2
  simp only [List.cons.injEq, and_true] at k0 k1 k2
  subst k0 k1 k2
  exact ⟨a, b, l, rfl⟩

set_option maxRecDepth 100000 in
theorem contract (H : Type) (enc : TypeId × Value → H) (W : World) (base : Nat) (args : Array Value) (ds gs : List (DataW H)) (before : List MemPlace)
    (hval : ∀ (j : Nat) t v, Tryd.f4.params[j]? = some t → args[j]? = some v → Value.okWide Tryd.prog W .any base t v)
    (hW : DataW.Whole enc Tryd.prog Tryd.f4.params.toList Rows.parseCountsSpec.vars false W args.toList ds gs before)
    (hz : (DataW.weightsEach Tryd.prog (Tryd.f4.params.toList ++ (OpenSpec.ofChange Rows.parseCountsSpec).bare.plain.varTypes Tryd.prog) (ds ++ gs)).all (· ≤ reachBytes) = true) (hL : laidMetH Tryd.prog Rows.parseCountsRow.laid W) :
    Calls Tryd.prog 4 args W fun e W' => ∃ v, e = .returned v ∧ Rows.parseCountsSpec.post enc Tryd.prog Tryd.f4 false true false false W args v W' := by
  have hW' := hW
  obtain ⟨p, q, hA0, hV, rfl, hfz, hnd⟩ := hW
  have hA : DataW.TrodAll enc Tryd.prog W 0 (fun _ => true) true Tryd.f4.params.toList args.toList ds p := hA0
  rw [Tryd.params4] at hA hval hz
  obtain ⟨v0, vs0, d0, ds0, p0, q0, hargs, rfl, rfl, t0, r0⟩ := trodAll_cons hA
  obtain ⟨v1, vs1, d1, ds1, p1, q1, rfl, rfl, rfl, t1, r1⟩ := trodAll_cons r0
  obtain ⟨rfl, rfl, rfl⟩ := trodAll_nil r1
  obtain rfl : args = #[v0, v1] := by cases args; simp_all
  obtain ⟨rfl, rfl⟩ := trodVars_none hV
  obtain ⟨cs, rfl, hcs⟩ := okWide_struct Tryd.underlying24 (hval 1 24 v1 rfl rfl)
  obtain ⟨a0, len, cap, rfl⟩ := okWide_slice Tryd.underlying36 (hval 0 36 v0 rfl rfl)
  have hE := err_of hL
  have t0k := t0
  have t1k := t1
  obtain ⟨fuel, hf⟩ := t0
  obtain ⟨fuel1, hf1⟩ := t1
  obtain ⟨la, lb, ll, rfl⟩ := limits_open hf1
  have hw : ∀ n ∈ d0.weights Tryd.prog 36, n ≤ reachBytes := fun n hn => by
    have := List.all_eq_true.1 hz n (DataW.weights_mem_each (j := 0) (t := 36) (d := d0) rfl rfl n hn)
    simpa using this
  clear hA0
  simp only [List.append_nil] at hW'
  have hlt : ∀ x ∈ p0 ++ p1, x.block < W.heap.size := fun x hx => by simpa using hW'.lt x hx
  have walk : Calls Tryd.prog 4 #[.slice a0 len cap, .agg #[.int .i64 la, .int .i64 lb, .int .i64 ll]] W fun e w' => e = .returned (.bool true) ∧ Below W.heap.size W w' := by
    rcases open_slice1 Tryd.underlying36 cellsR hf with ⟨hcs, hx⟩ | ⟨a, len', cap', m, n, V, D, Pl, hcs, _, hl, hm, hs, hx, hcell⟩
    · simp [Value.cells] at hcs
      obtain ⟨rfl, rfl, rfl⟩ := hcs
      exact counts_any none 0 [] la lb ll W (fun i x h => by cases h) (by decide) hE
    · simp [Value.cells] at hcs
      obtain ⟨rfl, rfl, rfl⟩ := hcs
      simp only [if_true] at hs
      obtain rfl : d0 = .slice ((List.range len).map D) ((List.range (m - len)).map fun j => D (len + j)) := congrArg Prod.fst hx
      have hwl := hw ((((List.range len).map D).length + ((List.range (m - len)).map fun j => D (len + j)).length) * Tryd.prog.bytesOf 22) (by simp [DataW.weights, Tryd.underlying36])
      rw [bytesR] at hwl
      obtain ⟨ls, hlen, hS⟩ := rows_read (len := len) (fun i hi => hcell i (by omega)) (fun i hi n hn => hw n (by
        simp only [DataW.weights, Tryd.underlying36]
        exact List.mem_cons_of_mem _ (List.mem_append_left _ (all_weights (List.mem_map.2 ⟨i, List.mem_range.2 hi, rfl⟩) n hn))))
      have hll : len ≤ 140737488355328 := by
        simp only [List.length_map, List.length_range] at hwl
        unfold reachBytes at hwl
        omega
      have h := counts_any (some a) cap ls la lb ll W hS (by rw [hlen]; exact hll) hE
      rwa [hlen] at h
  refine walk.mono fun e W' ⟨he, hb⟩ => ?_
  subst he
  refine ⟨_, rfl, ⟨_, _, _, [] ++ [], p0 ++ p1, [], hW', ?_, ?_, rfl, hb.frame _, fun h => by cases h⟩⟩
  · exact trodAll_cons_mk (shut_bool Tryd.underlying4 _) trodAll_mk0
  · have h := trodAll_cons_mk (Below.trod laidOut (by kernel_rfl) (of_decide_eq_true (by kernel_rfl)) t0k hb (fun x hx => hlt x (List.mem_append_left _ hx))) (trodAll_cons_mk (Below.trod laidOut (by kernel_rfl) (of_decide_eq_true (by kernel_rfl)) t1k hb (fun x hx => hlt x (List.mem_append_right _ hx))) trodAll_mk0)
    simp only [List.append_nil] at h
    exact h

theorem reads (os : Os) {H : Type} (enc : TypeId × Value → H) : ∃ places, DataW.whole enc Tryd.prog ((start os).forCall (fun _ _ => 0) ⟨#[], #[Value.slice none 0 0, Value.agg #[Value.int .i64 0, Value.int .i64 0, Value.int .i64 0]], []⟩).memory Tryd.f4.params.toList Rows.parseCountsSpec.vars false (#[Value.slice none 0 0, Value.agg #[Value.int .i64 0, Value.int .i64 0, Value.int .i64 0]] : Array Value).toList 8 = some ([.nil, .agg [.lit (.int .i64 0), .lit (.int .i64 0), .lit (.int .i64 0)]], [], places) :=
  ⟨[], by kernel_rfl⟩

set_option maxRecDepth 100000 in
theorem lifted (os : Os) (started : os.Started) (H : Type) (enc : TypeId × Value → H) (F : Stop.Interp) :
    ReturnsInHanded {} Tryd.checked os 4 .any ((OpenSpec.ofChange Rows.parseCountsSpec).preRow enc Tryd.prog Tryd.f4 Rows.parseCountsRow.domain false Rows.parseCountsRow.laid) (((OpenSpec.ofChange Rows.parseCountsSpec).at F).post enc Tryd.prog Tryd.f4 false true false false) := by
  obtain ⟨places, hx⟩ := reads os enc
  refine returnsInHanded_of_row (C := Tryd.checked) (s := OpenSpec.ofChange Rows.parseCountsSpec) own started (by kernel_rfl) Tryd.func4
    (witness_row_shaped (enc := enc) (C := Tryd.checked) (start os) #[Value.slice none 0 0, Value.agg #[Value.int .i64 0, Value.int .i64 0, Value.int .i64 0]] (World.laidAll_os _ _ _) (World.shaped_of_ZipB (by kernel_rfl) (by kernel_rfl)) (by kernel_rfl)
      (OpenSpec.preRow_of_cond 8 hx (by kernel_rfl) (fun k hk => by cases hk) (by kernel_rfl) (laid_met os _))) ?_
  intro W base args ds gs before hval hW _ _ hz hL _ _
  exact contract H enc W base args ds gs before hval hW hz hL

theorem said : Rows.ParseCountsSaid :=
  OpenClaim.holds_of_cond 4 Tryd.f4 rfl rfl rfl rfl rfl rfl rfl ⟨rfl, rfl, rfl, rfl, rfl⟩ rfl rfl rfl rfl rfl (by kernel_rfl) Tryd.func4 (by kernel_rfl)
    (of_decide_eq_true (by kernel_rfl)) (by unfold Func.isWrapper; first | (rw [if_pos (by decide +kernel)]; kernel_rfl) | (rw [if_neg (by decide +kernel)]; exact ⟨rfl, rfl⟩))
    (fun os started H enc _ F => by rw [OpenClaim.pre_eq_preRow]; exact lifted os started H enc F)

theorem plain (f : FuncId) (fn : Func) (hf : Tryd.pinned.checked.prog.funcNamed Rows.parseCountsRow.func = some f) (hfn : Tryd.pinned.checked.prog.funcs[f]? = some fn) :
    true = Tryd.pinned.checked.prog.looks [] ∧ ∀ (j : Nat) t, fn.params[j]? = some t → Tryd.pinned.checked.prog.wantsStandIn t = false := by
  obtain rfl : f = 4 := Option.some.inj ((show Tryd.prog.funcNamed Rows.parseCountsRow.func = some 4 by kernel_rfl).symm.trans hf) |>.symm
  obtain rfl : fn = Tryd.f4 := (Option.some.inj (Tryd.func4.symm.trans hfn)).symm
  refine ⟨by kernel_rfl, fun j t ht => ?_⟩
  rw [Tryd.params4] at ht
  have hm : t ∈ [36, 24] := by simpa using Array.mem_of_getElem? ht
  have hall : ([36, 24].all fun u => !Tryd.prog.wantsStandIn u) = true := by kernel_rfl
  exact (show Tryd.prog.wantsStandIn t = false by simpa using List.all_eq_true.1 hall t hm)

theorem card : Rows.ParseCountsCardSaid :=
  Claim7.holds_tied_plain_at .later [] _ _ _ _ said (fun _ h => by cases h) (by kernel_rfl) (fun _ h => by cases h) parseCounts_row_tie rfl ⟨rfl, rfl⟩ (by kernel_rfl) rfl plain (by kernel_rfl)

end Go.Proofs.YtakjindobmbhiaaDoor.parseCounts
