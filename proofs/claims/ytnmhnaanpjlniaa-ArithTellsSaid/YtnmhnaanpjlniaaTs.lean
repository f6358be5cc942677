import Derived.Test.YtnmhnaanpjlniaaTq
/-
  Vars, by the iterator.
-/
namespace Go.Proofs.Ytnmhnaanpjlniaa
open Go.RowKit Go.Maps
attribute [local go_sem] Oper.semAt_some

/-- the map's keys -/
def Sd (acc : List Int) : DataW Unit := setOf (.agg []) (acc.map (Lit.int .i64))

theorem has_Sd (acc : List Int) (n : Int) : has (Sd acc) (.int .i64 n) = acc.contains n := by
  unfold Sd
  rw [has_setOf _ _ _ (by intro x hx; obtain ⟨y, _, rfl⟩ := List.mem_map.1 hx; trivial), List.any_map]
  induction acc with
  | nil => rfl
  | cons a l ih =>
    simp only [List.any_cons, List.contains_cons, ih, Function.comp]
    congr 1
    have h : (n == a) = decide (n = a) := by by_cases h : n = a <;> simp [h]
    simp [Lit.sameKey, eq_comm]
    exact h

theorem Sd_new (acc : List Int) (n : Int) : Sd (acc ++ [n]) = (Sd acc).put (.int .i64 n) (.agg []) := by
  simp [Sd, setOf, List.foldl_append]

theorem infoI64 : (Try.prog.info? 2).map (fun i => (i.zero, i.size, i.bytes)) = some (some (.int .i64 0), 1, 8) := by kernel_rfl

theorem numsOf_length (l : List (Int × Int)) : (numsOf l).length ≤ l.length := by
  have key : ∀ (l : List (Int × Int)) (acc : List Int), (l.foldl newNum acc).length ≤ acc.length + l.length := by
    intro l
    induction l with
    | nil => intro acc; simp
    | cons x l ih =>
      intro acc
      have h := ih (newNum acc x)
      have h2 : (newNum acc x).length ≤ acc.length + 1 := by
        unfold newNum
        split
        · split
          · omega
          · simp
        · omega
      simp only [List.foldl_cons, List.length_cons]
      omega
  have := key l []
  simpa [numsOf] using this

theorem zeroUnit (w : World) : (zeroValue 100).run Try.prog w = .ok (.agg #[]) w := by kernel_rfl

/-- the body's own blocks -/
def ours (R : Nat) (W : World) (k : Nat) : Prop := k = R ∨ k = R + 1 ∨ (R + 4 ≤ k ∧ (W.heap.size < R + 4 ∨ ∃ off len cap, W.cell? ⟨R, 0, none⟩ = some (.slice (some ⟨k, off, none⟩) len cap)))

/-- between two rounds -/
def Has (w : World) (pre : List Nd) (W : World) : Prop :=
  ∃ v, W.cell? ⟨w.heap.size, 0, none⟩ = some v ∧ W.frozen? ⟨w.heap.size, 0, none⟩ = false ∧ W.cell? ⟨w.heap.size + 1 + 1, 0, none⟩ = some (.map (some (w.heap.size + 1))) ∧
    W.ownsMap Try.prog 2 unitElem (w.heap.size + 1) pre.length (Sd (numsOf (pre.map Ts.mark))) ∧ W.ownsRow (w.heap.size + 4) 2 1 v (numsOf (pre.map Ts.mark)).length ((numsOf (pre.map Ts.mark)).map (Value.int .i64)) ∧
    w.heap.size + 4 ≤ W.heap.size ∧ Below w.heap.size w W

theorem ours_grown {R : Nat} {W W' : World} {row : Option Nat} {k' : Nat} (hg : W.grownBy W' row) (hr : ∀ r, row = some r → R + 4 ≤ r) (hk : ¬ ours R W k') : ¬ ours R W' k' := by
  intro h
  apply hk
  rcases h with h | h | ⟨h1, h2⟩
  · exact .inl h
  · exact .inr (.inl h)
  · refine .inr (.inr ⟨h1, ?_⟩)
    by_cases hs : W.heap.size < R + 4
    · exact .inl hs
    · rcases h2 with h2 | ⟨o, l, cp, h2⟩
      · have := hg.size; omega
      · refine .inr ⟨o, l, cp, ?_⟩
        rw [← h2]
        exact (World.cell?_of_block (a := ⟨R, 0, none⟩) (hg.block _ (by simp; omega) (fun e => by have := hr _ e.symm; simp at this; omega))).symm

theorem Has.grown {w : World} {pre : List Nd} {W W' : World} {row : Option Nat} (h : Has w pre W) (hg : W.grownBy W' row) (hr : ∀ r, row = some r → w.heap.size + 4 ≤ r ∧ ((∃ o : Obj, W.heap[r]? = some o ∧ o.isCells = false) ∨ ¬ ours w.heap.size W r)) : Has w pre W' := by
  obtain ⟨v, h1, h2, h3, h4, h5, h6, h7⟩ := h
  have hb : ∀ q, q < w.heap.size + 4 → q < W.heap.size → W'.heap[q]? = W.heap[q]? := fun q hq hlt => hg.block q hlt (fun e => by have := (hr _ e.symm).1; omega)
  refine ⟨v, (World.cell?_of_block (a := ⟨w.heap.size, 0, none⟩) (hb _ (by simp) (by simp; omega))).trans h1, (World.frozen?_of_block (a := ⟨w.heap.size, 0, none⟩) (hb _ (by simp) (by simp; omega))).trans h2, (World.cell?_of_block (a := ⟨w.heap.size + 1 + 1, 0, none⟩) (hb _ (by simp) (by simp; omega))).trans h3, h4.kept hg (fun e => by have := (hr _ e.symm).1; omega), h5.kept hg ?_, Nat.le_trans h6 hg.size, h7.grown hg (by omega) (fun r e => by have := (hr r e).1; omega)⟩
  rcases h5.2 with ⟨rfl, _⟩ | ⟨g, cap, cur, rfl, hge, hh, _⟩
  · exact .inl rfl
  · refine .inr fun e => ?_
    rcases (hr g e.symm).2 with ⟨o, ho, hno⟩ | hnm
    · rw [hh] at ho; cases ho; cases hno
    · exact hnm (.inr (.inr ⟨hge, .inr ⟨0, _, _, h1⟩⟩))

theorem Has.same {w : World} {pre pre' : List Nd} {W : World} (h : Has w pre W) (hn : numsOf (pre'.map Ts.mark) = numsOf (pre.map Ts.mark)) (hl : pre.length ≤ pre'.length) : Has w pre' W := by
  obtain ⟨v, h1, h2, h3, h4, h5, h6, h7⟩ := h
  exact ⟨v, h1, h2, h3, by rw [hn]; exact h4.mono hl, by rw [hn]; exact h5, h6, h7⟩

set_option maxRecDepth 100000 in
set_option maxHeartbeats 2000000 in
theorem tvars_any (ts : Ts) (hbig : ts.size ≤ 900000) (hok : ts.ok) (w : World) (p : Option Addr) (c : Nat) (hc : ts.len ≤ c ∧ c ≤ 9223372036854775807) (hat : Ts.At w p ts) :
    Calls Try.prog 41 #[.slice p ts.len c] w fun e w' => ∃ v, e = .returned v ∧ w'.ownsRow (w.heap.size + 4) 2 1 v (numsOf ((nodesOf ts).map Ts.mark)).length ((numsOf ((nodesOf ts).map Ts.mark)).map (Value.int .i64)) ∧ Below w.heap.size w w' := by
  refine (callsIn_wide (n := 8)).1 ?_
  refine callsIn_of_wp_marks Try.func41 rfl trivial ?_ rfl
  simp only [Try.ntmps41, List.size_toArray, List.length_cons, List.length_nil, Nat.reduceAdd, Nat.reduceSub, Array.replicate_succ, Array.replicate_zero, List.push_toArray, List.append_toArray, List.nil_append, List.cons_append]
  have hmm := @run_makeMap Try.prog
  gi_wp2_with (refine ⟨trivial, ?_⟩; gi_at_call 80; refine (nodes_any _ _ trivial rfl _ _ _ _).mono ?_; rintro e w' ⟨rfl, rfl⟩)
  clear hmm
  obtain ⟨W0, hW0⟩ : ∃ W0, W0 = (((w.alloc (.cells #[.slice none 0 0] 57)).alloc (.map #[] 0)).alloc (.cells #[.map (some (w.heap.size + 1))] 99)).alloc (.cells #[.slice p ts.len c] 23) := ⟨_, rfl⟩
  rw [← hW0]
  have hs0 : W0.heap.size = w.heap.size + 4 := by rw [hW0]; simp
  have hB0 : Below w.heap.size w W0 := by rw [hW0]; exact ((((Below.refl _ _).alloc (Nat.le_refl _) _).alloc (by simp) _).alloc (by simp; omega) _).alloc (by simp; omega) _
  have hlist : W0.cell? ⟨w.heap.size + 1 + 1 + 1, 0, none⟩ = some (.slice p ts.len c) := by
    rw [hW0, _root_.Go.Joins.cell_alloc_mark_at _ _ _ _ _ 0 (by simp)]; rfl
  have h00 : Has w [] W0 := by
    refine ⟨.slice none 0 0, ?_, ?_, ?_, ?_, World.ownsRow_nil _ _ _ _, by omega, hB0⟩
    · rw [hW0]
      refine cell_alloc_old _ (cell_alloc_old _ (cell_alloc_old _ ?_))
      rw [_root_.Go.Joins.cell_alloc_mark_at _ _ _ _ _ 0 rfl]; rfl
    · rw [hW0, World.frozen?_alloc_past _ _ _ (by simp only [World.size_alloc]; omega), World.frozen?_alloc_past _ _ _ (by simp only [World.size_alloc]; omega), World.frozen?_alloc_past _ _ _ (by simp only [World.size_alloc]; omega)]
      exact World.frozen?_alloc_new _ _ _ 0
    · rw [hW0]
      refine cell_alloc_old _ ?_
      rw [_root_.Go.Joins.cell_alloc_mark_at _ _ _ _ _ 0 (by simp)]; rfl
    · rw [hW0]
      have := World.ownsMap_made (H := Unit) (w.alloc (.cells #[.slice none 0 0] 57)) Try.prog 2 unitElem
      rw [World.size_alloc] at this
      exact (this.alloc _).alloc _
  have Z := Lib.hid hW0
  clear hW0
  have hatP : Ts.AtP (fun x => x < w.heap.size) W0 p ts := hat.atP.stay fun b hb _ => hB0.block b hb
  have hseq := nodes_seq Fence.wide 7 trivial rfl (by omega) (w.heap.size + 1 + 1 + 1) p c ts hok hc (by omega) (fun x => x < w.heap.size) (ours w.heap.size) W0 (fun b hb => ⟨by omega, fun W h => by rcases h with h | h | ⟨h, _⟩ <;> omega⟩) hlist hatP
  refine range_law rfl (by omega) (gf := 106) (lb := #[.pointer (some ⟨w.heap.size + 1 + 1 + 1, 0, none⟩)]) rfl trivial (enters_of Try.func106 (by kernel_rfl) rfl) hseq
    ?hmine ?hnew (Below.refl _ _) (fun _ => rfl) (Has w) (fun _ _ _ => False) ?hI (fun _ _ _ _ _ h _ _ => h) h00
    (fun x W a' => ∃ Bx, w.heap.size + 4 ≤ Bx ∧ W.cell? ⟨Bx, 0, none⟩ = some (.int .u8 x.k) ∧ W.cell? ⟨Bx, 2, none⟩ = some (.int .i64 x.n) ∧ a' = { tmps := #[.slice p ts.len c, undef, .slice none 0 0, .pointer (some ⟨w.heap.size, 0, none⟩), .pointer (some ⟨w.heap.size + 1 + 1, 0, none⟩), .pointer (some ⟨Bx, 0, none⟩), undef, undef, .map (some (w.heap.size + 1)), .slice p ts.len c, .func (.func 106) #[] #[.pointer (some ⟨w.heap.size + 1 + 1 + 1, 0, none⟩)], x.val, undef, undef, undef, undef, undef, undef, undef, undef, undef, undef, undef, undef, undef, undef, undef, undef, undef, undef, undef, undef, undef, undef], defers := [] })
    ?assign ?ha ?body ?done (fun _ _ _ _ _ _ h _ => h.elim)
  case hmine =>
    intro W W' row k' hg hr hk
    exact ours_grown hg (fun r e => by have := (hr r e).1; omega) hk
  case hnew =>
    rintro k' hk' h
    obtain ⟨v, hv0, _, _, _, hrow, _⟩ := h00
    rcases h with h | h | ⟨_, h | ⟨o, l, cp, h⟩⟩
    · omega
    · omega
    · omega
    · rw [hv0] at h
      cases h
      have := (hrow.lt k' rfl).2
      omega
  case hI =>
    intro pre W W' row h hg hr
    exact h.grown hg (fun r e => ⟨by have := (hr r e).1; omega, (hr r e).2⟩)
  case assign =>
    intro l pre x W K hi hK
    have hsW : w.heap.size + 4 ≤ W.heap.size := by obtain ⟨_, _, _, _, _, _, h6, _⟩ := hi; exact h6
    obtain ⟨xk, xs, xn, xp, xc, xt⟩ := x
    simp only [Nd.val] at hK ⊢
    gi_wp2
    have hgr : ∀ o : Obj, W.grownBy (W.alloc o) none := fun o => World.grownBy_alloc _ _ none
    exact hK _ _ ⟨W.heap.size, hsW, by rw [_root_.Go.Joins.cell_alloc_mark_at _ _ _ _ _ 0 rfl]; rfl, by rw [_root_.Go.Joins.cell_alloc_mark_at _ _ _ _ _ 2 rfl]; rfl, rfl⟩ ((KeepsOthers.alloc _ _).from _)
      ⟨by simp, fun k' _ hlt hm => ⟨Below.heap_alloc _ _ _ hlt, ours_grown (hgr _) (fun r e => by cases e) hm⟩, fun h k' hk' => ours_grown (hgr _) (fun r e => by cases e) (h k' (by simp at hk'; omega))⟩
      (hi.grown (hgr _) (fun r e => by cases e))
  case ha =>
    rintro x a' W W' row ⟨Bx, h0, h1, h2, rfl⟩ hg hr
    exact ⟨Bx, h0, cell_kept h1 hg (fun r e => (hr r e).2), cell_kept h2 hg (fun r e => (hr r e).2), rfl⟩
  case done =>
    rintro D xs W hD rfl ⟨v, h1, h2, h3, h4, h5, h6, h7⟩ hdef
    gi_wp2
    refine ⟨by simp, .inl ⟨_, _, rfl, run_takeDeferred hdef, ?_⟩⟩
    exact ⟨_, results_tmp rfl _ _ _, v, rfl, ownsRow_putObj h5 _ hdef rfl, h7.grown (grownBy_putObj' W D _) (by omega) (fun r e => by cases e; omega)⟩
  case body =>
    rintro l pre x a' W hH ⟨Bx, hBx, hx0, hx2, rfl⟩ hpre
    have hmem : x ∈ nodesOf ts := by
      obtain ⟨tl, htl⟩ := hpre
      rw [← htl]; simp
    have hwf := nodes_wf ts hok x hmem
    have hplen : pre.length < 1000000 := by have := hpre.length_le; rw [nodesOf_length, List.length_append] at this; simp at this; omega
    have HH := Lib.hid hH
    obtain ⟨v, h1, h2, h3, h4, h5, h6, h7⟩ := hH
    by_cases hk1 : (x.k != 1) = true
    · have hnum : numsOf ((pre ++ [x]).map Ts.mark) = numsOf (pre.map Ts.mark) := by
        have hk0 : (x.k == 1) = false := by simpa using hk1
        rw [List.map_append, numsOf, List.foldl_append]
        simp [numsOf, newNum, Ts.mark, hk0]
      have NUM := Lib.hid hnum
      clear hnum
      gi_wp2
      exact ⟨KeepsFrom.refl _ _, ⟨Nat.le_refl _, fun _ _ _ hm => ⟨rfl, hm⟩, fun h => h⟩, v, h1, h2, h3, by rw [NUM.out]; exact h4.mono (by simp), by rw [NUM.out]; exact h5, h6, h7⟩
    · rw [Bool.not_eq_true] at hk1
      have hkey : keyOf Try.prog 2 (.int .i64 x.n) = some (.int .i64 x.n) := Maps.keyOf_int_mk Try.underlying2 (by
        have hmin : IntKind.i64.min = -9223372036854775808 := rfl
        have hmax : IntKind.i64.max = 9223372036854775807 := rfl
        simp only [Lit.wf, Bool.and_eq_true, decide_eq_true_eq, hmin, hmax]; exact hwf)
      by_cases hin : (numsOf (pre.map Ts.mark)).contains x.n = true
      · have hhas : Maps.has (Sd (numsOf (pre.map Ts.mark))) (.int .i64 x.n) = true := by rw [has_Sd]; exact hin
        have hnum : numsOf ((pre ++ [x]).map Ts.mark) = numsOf (pre.map Ts.mark) := by
          have hk0 : (x.k == 1) = true := by simpa using hk1
          rw [List.map_append, numsOf, List.foldl_append]
          show newNum (numsOf (pre.map Ts.mark)) (x.k, x.n) = _
          simp only [newNum, hk0, if_true, hin]
        have NUM := Lib.hid hnum
        clear hnum
        gi_wp2_with (gi_at_lookup; refine wpListIn_lookup_own_unit _ rfl _ _ 99 rfl 2 100 (Maps.int_keyed Try.underlying2) Try.underlying99 (zeroUnit _) (w.heap.size + 1) pre.length _ rfl h4 _ _ rfl hkey ?_)
        have hgr : ∀ o : Obj, W.grownBy (W.alloc o) none := fun o => World.grownBy_alloc _ _ none
        exact ⟨(KeepsOthers.alloc _ _).from _, ⟨by simp, fun k' _ hlt hm => ⟨Below.heap_alloc _ _ _ hlt, ours_grown (hgr _) (fun r e => by cases e) hm⟩, fun h k' hk' => ours_grown (hgr _) (fun r e => by cases e) (h k' (by simp at hk'; omega))⟩,
          (HH.out.grown (hgr _) (fun r e => by cases e)).same NUM.out (by simp)⟩
      · rw [Bool.not_eq_true] at hin
        have hhas : Maps.has (Sd (numsOf (pre.map Ts.mark))) (.int .i64 x.n) = false := by rw [has_Sd]; exact hin
        have hnum : numsOf ((pre ++ [x]).map Ts.mark) = numsOf (pre.map Ts.mark) ++ [x.n] := by
          have hk0 : (x.k == 1) = true := by simpa using hk1
          rw [List.map_append, numsOf, List.foldl_append]
          show newNum (numsOf (pre.map Ts.mark)) (x.k, x.n) = _
          simp only [newNum, hk0, if_true, hin]
          rfl
        have hnl : (numsOf (pre.map Ts.mark)).length ≤ 1000000 := by have := numsOf_length (pre.map Ts.mark); rw [List.length_map] at this; omega
        have NUM := Lib.hid hnum
        clear hnum
        obtain ⟨i0, hi, hz0, hz1, hz2⟩ := info_parts infoI64
        have a3 : ∀ o, (W.alloc o).cell? ⟨w.heap.size + 1 + 1, 0, none⟩ = some (.map (some (w.heap.size + 1))) := fun o => cell_alloc_old o h3
        have a1 : ∀ o, (W.alloc o).cell? ⟨w.heap.size, 0, none⟩ = some v := fun o => cell_alloc_old o h1
        have ax : ∀ o, (W.alloc o).cell? ⟨Bx, 2, none⟩ = some (.int .i64 x.n) := fun o => cell_alloc_old o hx2
        obtain ⟨mo, hmo, hmc⟩ : ∃ o : Obj, W.heap[w.heap.size + 1]? = some o ∧ o.isCells = false := by
          obtain ⟨es, ck, hh, _⟩ := h4
          exact ⟨_, hh, rfl⟩
        have hne1 : v.ownBlock = none ∨ v.ownBlock ≠ some (w.heap.size + 1) := by
          cases hob : v.ownBlock with
          | none => exact .inl rfl
          | some g => exact .inr (fun e => by cases e; have := (h5.lt _ hob).1; omega)
        have hneR : some w.heap.size ≠ v.ownBlock := fun e => by have := (h5.lt _ e.symm).1; omega
        have hW1 : w.heap.size < W.heap.size := by omega
        have hmo' : ∀ o, (W.alloc o).heap[w.heap.size + 1]? = some mo := fun o => (Below.heap_alloc _ _ _ (by omega)).trans hmo
        gi_wp2_with (first
          | (gi_at_lookup; refine wpListIn_lookup_own_unit _ rfl _ _ 99 rfl 2 100 (Maps.int_keyed Try.underlying2) Try.underlying99 (zeroUnit _) (w.heap.size + 1) pre.length _ rfl h4 _ _ rfl hkey ?_)
          | (gi_at_mapUpdate; refine wpListIn_mapUpdate_own _ rfl _ _ _ 99 rfl 2 100 (Maps.int_keyed Try.underlying2) Try.underlying99 (unitElem (H := Unit)) (w.heap.size + 1) pre.length _ rfl (h4.alloc _) (by unfold maxLen; omega) _ _ _ rfl rfl hkey _ [] unitElem_mk ?_; intro w1 hown1 hgrow1; have b1 := cell_kept (a1 _) hgrow1 (fun r e => by cases e; exact ⟨mo, hmo' _, hmc⟩); have bx := cell_kept (ax _) hgrow1 (fun r e => by cases e; exact ⟨mo, hmo' _, hmc⟩); have d1 := fun o => cell_alloc_old o b1)
          | (gi_at_builtin; refine wpListIn_append_own_at _ rfl _ _ 57 rfl (w.heap.size + 4) 2 i0 (.int .i64 0) 1 8 Try.underlying57 hi hz0 hz1 hz2 rfl (by decide) _ _ _ rfl (((h5.alloc _).kept hgrow1 hne1).alloc _) ⟨w1.heap.size, 0, none⟩ 1 1 [.int .i64 x.n] rfl rfl (cell_one_new _ _ _) (by simp [Value.oneCell']) (by unfold maxLen; omega) (by omega) (by have := hgrow1.size; simp at this ⊢; omega) ?_; intro v' w2 hown2 hgrow2 hnil hob; obtain ⟨g', cap', rfl⟩ := ownsRow_succ hown2; have e1 : w2.cell? ⟨w.heap.size, 0, none⟩ = some v := (World.cell?_of_block (a := ⟨w.heap.size, 0, none⟩) (hgrow2.block _ (by have := hgrow1.size; simp at this ⊢; omega) hneR)).trans (d1 _); have e2 : w2.frozen? ⟨w.heap.size, 0, none⟩ = false := (World.frozen?_of_block (a := ⟨w.heap.size, 0, none⟩) (by rw [hgrow2.block _ (by have := hgrow1.size; simp at this ⊢; omega) hneR, Below.heap_alloc _ _ _ (by have := hgrow1.size; simp at this ⊢; omega), hgrow1.block _ (by simp; omega) (by simp), Below.heap_alloc _ _ _ hW1])).trans h2))
        have hob : (some g' : Option Nat) = v.ownBlock ∨ (some g' : Option Nat) = some (w1.alloc (.cells #[.int .i64 x.n] 2)).heap.size := hob
        have hgrow2 : (w1.alloc (.cells #[.int .i64 x.n] 2)).grownBy w2 v.ownBlock := hgrow2
        have s1 : W.heap.size + 1 ≤ w1.heap.size := by have := hgrow1.size; simp at this; omega
        have s2 : w1.heap.size + 1 ≤ w2.heap.size := by have := hgrow2.size; simp at this; omega
        have far2 : ∀ q, q < W.heap.size → q ≠ w.heap.size + 1 → some q ≠ v.ownBlock → w2.heap[q]? = W.heap[q]? := fun q hq hq1 hq2 => by
          rw [hgrow2.block q (by simp; omega) hq2, Below.heap_alloc _ _ _ (by omega), hgrow1.block q (by simp; omega) (by simpa using hq1), Below.heap_alloc _ _ _ hq]
        have hown : ∀ q, v.ownBlock = some q → w.heap.size + 4 ≤ q ∧ (∃ cs t fz, W.heap[q]? = some (.cells cs t fz)) ∧ ours w.heap.size W q := fun q hq => by
          rcases h5.2 with ⟨rfl, _⟩ | ⟨g, cap, cur, rfl, hge, hh, _⟩
          · cases hq
          · cases hq
            exact ⟨hge, ⟨_, _, _, hh⟩, .inr (.inr ⟨hge, .inr ⟨0, _, _, h1⟩⟩)⟩
        have hg'lt := hown2.lt g' rfl
        obtain ⟨W5, hW5⟩ : ∃ W5, W5 = w2.setCell ⟨w.heap.size, 0, none⟩ (.slice (some ⟨g', 0, none⟩) ((numsOf (pre.map Ts.mark)).length + 1) cap') := ⟨_, rfl⟩
        have hg5 : w2.grownBy W5 (some w.heap.size) := by rw [hW5]; exact ⟨rfl, rfl, rfl, by simp, fun k hk hne => Below.heap_setCell _ _ _ _ (fun e => hne (by rw [e]))⟩
        have hs5 : W5.heap.size = w2.heap.size := by rw [hW5]; simp
        have hc5 : W5.cell? ⟨w.heap.size, 0, none⟩ = some (.slice (some ⟨g', 0, none⟩) ((numsOf (pre.map Ts.mark)).length + 1) cap') := by rw [hW5]; exact World.cell?_setCell_same _ _ _ e1
        have hf5 : W5.frozen? ⟨w.heap.size, 0, none⟩ = false := by rw [hW5, World.frozen?_setCell]; exact e2
        have hB5 : Below w.heap.size w W5 := by rw [hW5]; exact ((((h7.alloc (by omega) _).grown hgrow1 (by simp; omega) (fun r e => by cases e; omega)).alloc (by omega) _).grown hgrow2 (by simp; omega) (fun r e => by have := (hown r e).1; omega)).setCell (p := ⟨w.heap.size, 0, none⟩) (Nat.le_refl _) _
        have far5 : ∀ q, q < W.heap.size → q ≠ w.heap.size → q ≠ w.heap.size + 1 → some q ≠ v.ownBlock → W5.heap[q]? = W.heap[q]? := fun q hq h0 hq1 hq2 => by
          rw [hg5.block q (by omega) (by simpa using h0), far2 q hq hq1 hq2]
        have hno5 : ∀ q, q < W.heap.size → ¬ ours w.heap.size W q → ¬ ours w.heap.size W5 q := fun q hq hn h => by
          rcases h with h | h | ⟨h, h' | ⟨o, ln, cp, h'⟩⟩
          · exact hn (.inl h)
          · exact hn (.inr (.inl h))
          · omega
          · rw [hc5] at h'
            cases h'
            rcases hob with h | h
            · exact hn (hown _ h.symm).2.2
            · simp at h; omega
        rw [← hW5]
        refine ⟨⟨by omega, fun q o hq hqo hno => ?_⟩, ⟨by omega, fun q _ hlt hn => ⟨far5 q hlt (fun e => hn (.inl e)) (fun e => hn (.inr (.inl e))) (fun e => hn (hown q e.symm).2.2), hno5 q hlt hn⟩, fun _ q hq h => ?_⟩, _, hc5, hf5, ?_, ?_, ?_, by omega, hB5⟩
        · have hlt := (Array.getElem?_eq_some_iff.1 hqo).1
          rw [far5 q hlt (by omega) (by omega) (fun e => by obtain ⟨_, ⟨cs, t, fz, hh⟩, _⟩ := hown q e.symm; rw [hh] at hqo; cases hqo; cases hno)]
          exact hqo
        · rcases h with h | h | ⟨h, h' | ⟨o, ln, cp, h'⟩⟩
          · omega
          · omega
          · omega
          · rw [hc5] at h'
            cases h'
            omega
        · exact (World.cell?_of_block (a := ⟨w.heap.size + 1 + 1, 0, none⟩) (far5 _ (by simp; omega) (by simp; omega) (by simp) (fun e => by have := (hown _ e.symm).1; simp at this; omega))).trans h3
        · rw [NUM.out, Sd_new]
          have := (hown1.alloc (.cells #[.int .i64 x.n] 2)).kept hgrow2 (fun e => by have := (hown _ e.symm).1; omega)
          simpa using this.kept hg5 (fun e => by simp at e)
        · rw [NUM.out]
          have := hown2.kept hg5 (.inr (fun e => by simp [Value.ownBlock] at e; omega))
          simpa using this

end Go.Proofs.Ytnmhnaanpjlniaa
