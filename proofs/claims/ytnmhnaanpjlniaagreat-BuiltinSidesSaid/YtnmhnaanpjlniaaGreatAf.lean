import Derived.Test.YtnmhnaanpjlniaaGreatAd
import Derived.Test.YtnmhnaanpjlniaaGreatAh
import Derived.Shelf.SlMaps.Clone
/-
  Layer 3: a node like another one, but for one binding more.
-/
namespace Go.Proofs.YtnmhnaanpjlniaaGreat
open Go.RowKit Go.Maps

set_option maxRecDepth 100000 in
set_option maxHeartbeats 4000000 in
theorem mclone_any (MB m : Nat) (D : DataW Value) (w : World) (hown : w.ownsMap Tryz.prog 2 heldElem MB m D) :
    Calls Tryz.prog 104 #[.map (some MB)] w fun e w' => ∃ o, e = .returned (.map (some w.heap.size)) ∧ w' = w.alloc o ∧ w'.ownsMap Tryz.prog 2 heldElem w.heap.size m D := by
  obtain ⟨es, clock, hb, F, hs, hD⟩ := hown
  have hrun := run_maps_clone_sl (P := Tryz.prog) w 104 hb
  have hnew : (w.alloc (.map es clock)).ownsMap Tryz.prog 2 heldElem w.heap.size m D := ⟨es, clock, (Go.MapKept.heap_alloc w _).1, F, hs, hD⟩
  have NEW := Lib.hid hnew
  clear hb F hs hD hnew
  have hu : Tryz.prog.underlying 104 = some (.map 2 25) := by kernel_rfl
  have hq := fun w => run_eql_map_nil_sl (P := Tryz.prog) w 104 _ _ (some MB) hu
  go_enter Tryz.func104, Tryz.ntmps104
  go_wp2
  rw [run_callFunc_extern Tryz.func120 (by kernel_rfl) (by kernel_rfl) (by kernel_rfl) (e := Extern.MapsClone.clone) (by kernel_rfl), hrun]
  simp only [Result.andThen]
  rw [Oper.upon_value]
  go_wp2
  rw [run_typeAssert_map_sl _ 104 _ _ _ _ hu]
  simp only [Result.andThen]
  rw [Oper.upon_value]
  go_wp2
  go_ret
  exact ⟨_, rfl, rfl, NEW.out⟩

theorem mclone_nil (w : World) : Calls Tryz.prog 104 #[.map none] w fun e w' => e = .returned (.map none) ∧ w' = w := by
  have hu : Tryz.prog.underlying 104 = some (.map 2 25) := by kernel_rfl
  have hq := fun w => run_eql_map_nil_sl (P := Tryz.prog) w 104 _ _ none hu
  go_enter Tryz.func104, Tryz.ntmps104
  go_wp2
  go_ret
  exact ⟨rfl, rfl⟩

theorem ownsMap_moved {P : Program} {k : TypeId} {R : Value → Option (DataW Value × List MemPlace)} {b m : Nat} {D : DataW Value} {w w' : World} (h : w.ownsMap P k R b m D) (e : w'.heap[b]? = w.heap[b]?) : w'.ownsMap P k R b m D := by
  obtain ⟨es, clock, hb, r⟩ := h
  exact ⟨es, clock, e.trans hb, r⟩

/-- what a copy of a node holds -/
def Copied (W : World) (c : Nat) (f : Sb) (ks : Nat → Option Addr) (u : Value) : Nat → Prop
  | 0 => ks = (fun _ => none) ∧ ((u = .map none ∧ ∀ v, f v = none) ∨ ∃ MB, u = .map (some MB) ∧ LeafIs W c MB f)
  | l + 1 => u = .map none ∧ ∀ i, i < 16 → NodeAt W c l (ks i) (only f (l + 1) i)

/-- a node that no turn of other blocks takes away -/
def NodeFor (w0 w w' : World) (c l : Nat) (p : Option Addr) (f : Sb) : Prop :=
  ∀ w2 : World, (∀ b, (b < w0.heap.size ∨ (w.heap.size ≤ b ∧ b < w'.heap.size)) → w2.heap[b]? = w'.heap[b]?) → NodeAt w2 c l p f

/-- a node of its own, just made -/
structure Fresh (w0 w : World) (c l C : Nat) (f : Sb) (A : Array Value) (W : World) : Prop where
  B : Below w.heap.size w W
  size : W.heap.size = w.heap.size + 2
  box : ∀ i u, A[i]? = some u → W.cell? ⟨w.heap.size, i, none⟩ = some u
  node : ∃ ks u, W.heap[C]? = some (.cells (kidCells ks u) 106 (0, 0)) ∧ Copied w0 c f ks u l

set_option maxRecDepth 100000 in
set_option maxHeartbeats 8000000 in
theorem with_start (w0 : World) (l : Nat) (q : Option Addr) (f : Sb) (c : Nat) (w : World) (hN : NodeAt w0 c l q f) (A : Array Value) (t : TypeId) (W : World) (hW : W = (w.alloc (.cells A t)).alloc (.cells #[.pointer none, .pointer none, .pointer none, .pointer none, .pointer none, .pointer none, .pointer none, .pointer none, .pointer none, .pointer none, .pointer none, .pointer none, .pointer none, .pointer none, .pointer none, .pointer none, .map none] 106)) (hq : q = none) : Fresh w0 w c l (w.heap.size + 1) f A W := by
  subst hW
  have hrow : ((w.alloc (.cells A t)).alloc (.cells #[.pointer none, .pointer none, .pointer none, .pointer none, .pointer none, .pointer none, .pointer none, .pointer none, .pointer none, .pointer none, .pointer none, .pointer none, .pointer none, .pointer none, .pointer none, .pointer none, .map none] 106)).heap[w.heap.size + 1]? = some (.cells (kidCells (fun _ => none) (.map none)) 106 (0, 0)) := heap_alloc2_new w _ _
  refine ⟨((Below.refl _ _).alloc (Nat.le_refl _) _).alloc (by simp) _, by simp, fun i u h => ?_, _, _, hrow, ?_⟩
  · refine cell_alloc_old _ ?_
    rw [_root_.Go.Joins.cell_alloc_mark_at w _ t _ _ i rfl]; exact h
  · subst hq
    have hf := hN.of_none
    cases l with
    | zero => exact ⟨rfl, .inl ⟨rfl, hf⟩⟩
    | succ l => exact ⟨rfl, fun i _ => NodeAt.none_of (fun v => by show (if _ then f v else none) = none; rw [hf v]; split <;> rfl) l⟩

theorem leaf_done {w0 w W w1 : World} {C MB m c : Nat} {D : DataW Value} {f : Sb} {v : Int} {x : Nd} (hv : 0 ≤ v ∧ v ≤ 9223372036854775807) (hB : Below w.heap.size w W) (hsz : w.heap.size ≤ W.heap.size) (hCl : w.heap.size ≤ C) (hMB : w.heap.size ≤ MB)
    (hrow : W.heap[C]? = some (.cells (kidCells (fun _ => none) (.map (some MB))) 106 (0, 0))) (hown : W.ownsMap Tryz.prog 2 heldElem MB m D) (hm : m ≤ c)
    (hD : ∀ u : Int, (-9223372036854775808 ≤ u ∧ u ≤ 9223372036854775807) → Maps.has D (.int .i64 u) = (f u).isSome ∧ D.atKey (.int .i64 u) (.held zeroTerm) = .held (valOf (f u)))
    (hown1 : w1.ownsMap Tryz.prog 2 heldElem MB (m + 1) (D.put (.int .i64 v) (.held x.val))) (hg : W.grownBy w1 (some MB)) :
    NodeFor w0 w w1 (c + 1) 0 (some ⟨C, 0, none⟩) (f.put v x) ∧ Below w.heap.size w w1 := by
  have hne : C ≠ MB := fun e => by
    subst e
    obtain ⟨es, clock, hb, _⟩ := hown
    rw [hrow] at hb
    cases hb
  have hCs := (Array.getElem?_eq_some_iff.1 hrow).1
  have hgs := hg.size
  refine ⟨fun w2 hw2 => .inr ⟨C, MB, rfl, ((hw2 C (.inr ⟨hCl, by omega⟩)).trans (hg.block C hCs (fun e => hne (by cases e; rfl)))).trans hrow, m + 1, _, by omega, ownsMap_moved hown1 (hw2 MB (.inr ⟨hMB, hown1.lt⟩)), fun u hu => ?_⟩, hB.grown hg hsz (fun k e => by cases e; exact hMB)⟩
  by_cases e : u = v
  · subst e
    rw [Sb.put_same]
    have hkl : WideAt.IsKeyLit (Lit.int .i64 u) := trivial
    exact ⟨Maps.has_put_same hown.isMap hkl _, Maps.atKey_put_same hown.isMap hkl _ _⟩
  · have hk : (Lit.int .i64 u) ≠ Lit.int .i64 v := fun h => e (by injection h)
    rw [Sb.put_other e, Maps.has_put_other hk, Maps.atKey_put_other hk]
    exact hD u hu

theorem kid_one (ks : Nat → Option Addr) (u : Value) (hu : u.oneCell' = true) : (kidCells ks u).all (·.oneCell') = true := by
  simpa [kidCells, Value.oneCell'] using hu

theorem infoNode : (Tryz.prog.info? 106).map (·.size) = some 17 := by kernel_rfl

theorem heap_setRow_other (w : World) (g : Nat) (cs : Array Value) (k : Nat) (h : k ≠ g) : (w.setRow g cs).heap[k]? = w.heap[k]? := by
  simp only [World.setRow, Array.getElem?_modify]
  rw [if_neg (fun e => h e.symm)]

theorem with_copy (w0 : World) (l : Nat) (f : Sb) (c : Nat) (w : World) (A : Array Value) (t : TypeId) (W : World) (hW : W = (w.alloc (.cells A t)).alloc (.cells #[.pointer none, .pointer none, .pointer none, .pointer none, .pointer none, .pointer none, .pointer none, .pointer none, .pointer none, .pointer none, .pointer none, .pointer none, .pointer none, .pointer none, .pointer none, .pointer none, .map none] 106)) (N : Nat) (ks : Nat → Option Addr) (u : Value) (hrow : w.heap[N]? = some (.cells (kidCells ks u) 106 (0, 0))) (hC : Copied w0 c f ks u l) :
    Fresh w0 w c l (w.heap.size + 1) f A (W.setRow (w.heap.size + 1) (kidCells ks u)) ∧ W.heap[N]? = some (.cells (kidCells ks u) 106 (0, 0)) ∧ W.heap[w.heap.size + 1]? = some (.cells (kidCells (fun _ => none) (.map none)) 106 (0, 0)) := by
  subst hW
  have hN := (Array.getElem?_eq_some_iff.1 hrow).1
  have hnew : ((w.alloc (.cells A t)).alloc (.cells #[.pointer none, .pointer none, .pointer none, .pointer none, .pointer none, .pointer none, .pointer none, .pointer none, .pointer none, .pointer none, .pointer none, .pointer none, .pointer none, .pointer none, .pointer none, .pointer none, .map none] 106)).heap[w.heap.size + 1]? = some (.cells (kidCells (fun _ => none) (.map none)) 106 (0, 0)) := heap_alloc2_new w _ _
  have hB : Below w.heap.size w ((w.alloc (.cells A t)).alloc (.cells #[.pointer none, .pointer none, .pointer none, .pointer none, .pointer none, .pointer none, .pointer none, .pointer none, .pointer none, .pointer none, .pointer none, .pointer none, .pointer none, .pointer none, .pointer none, .pointer none, .map none] 106)) := ((Below.refl _ _).alloc (Nat.le_refl _) _).alloc (by simp) _
  have hB2 : Below w.heap.size w (((w.alloc (.cells A t)).alloc (.cells #[.pointer none, .pointer none, .pointer none, .pointer none, .pointer none, .pointer none, .pointer none, .pointer none, .pointer none, .pointer none, .pointer none, .pointer none, .pointer none, .pointer none, .pointer none, .pointer none, .map none] 106)).setRow (w.heap.size + 1) (kidCells ks u)) :=
    hB.trans ⟨rfl, rfl, rfl, by simp, fun k hk => heap_setRow_other _ _ _ _ (by omega)⟩
  refine ⟨⟨hB2, by simp, fun i v h => ?_, ks, u, setRow_heap _ _ _ _ _ _ hnew, hC⟩, (hB.block N hN).trans hrow, hnew⟩
  rw [World.cell?_of_block (a := ⟨w.heap.size, i, none⟩) (heap_setRow_other _ _ _ _ (by simp))]
  refine cell_alloc_old _ ?_
  rw [_root_.Go.Joins.cell_alloc_mark_at w _ t _ _ i rfl]; exact h

set_option maxRecDepth 100000 in
set_option maxHeartbeats 8000000 in
theorem with_any : ∀ (l : Nat), l ≤ 15 → ∀ (q : Option Addr) (f : Sb) (c : Nat) (v : Int) (k : Int) (s : ByteArray) (n : Int) (p : Option Addr) (kids : Ts) (d : Nat) (w0 w : World), NodeAt w0 c l q f → Below w0.heap.size w0 w → c < 1000000 → (0 ≤ v ∧ v ≤ 9223372036854775807) →
    Calls Tryz.prog 70 #[.pointer q, .int .u64 l, .int .i64 v, .agg #[.int .u8 k, .string s, .int .i64 n, .slice p kids.len d]] w fun e w' => ∃ N, e = .returned (.pointer (some N)) ∧ NodeFor w0 w w' (c + 1) l (some N) (f.put v ⟨k, s, n, p, d, kids⟩) ∧ Below w.heap.size w w' := by
  intro l
  induction l with
  | zero =>
    intro hl q f c v k s n p kids d w0 w hN hBw hc hv
    go_enter Tryz.func70, Tryz.ntmps70
    go_upto_if 12 with fail
    obtain ⟨W0, hW0⟩ : ∃ W0, W0 = (w.alloc (.cells #[.int .u8 k, .string s, .int .i64 n, .slice p kids.len d] 25)).alloc (.cells #[.pointer none, .pointer none, .pointer none, .pointer none, .pointer none, .pointer none, .pointer none, .pointer none, .pointer none, .pointer none, .pointer none, .pointer none, .pointer none, .pointer none, .pointer none, .pointer none, .map none] 106) := ⟨_, rfl⟩
    rw [← hW0]
    go_cut [] from 10 (fun W => Hid (Fresh w0 w c 0 (w.heap.size + 1) f #[.int .u8 k, .string s, .int .i64 n, .slice p kids.len d] W))
    case first =>
      cases q with
      | none =>
        have FR := Lib.hid (with_start w0 0 none f c w hN _ _ W0 hW0 rfl)
        clear hW0 hN
        go_wp2
        go_meet
        exact FR
      | some x =>
        go_upto_region 3 with fail
        obtain ⟨N, MB, hx, hrow, hleaf⟩ : ∃ N MB, x = ⟨N, 0, none⟩ ∧ w.heap[N]? = some (.cells (kidCells (fun _ => none) (.map (some MB))) 106 (0, 0)) ∧ LeafIs w0 c MB f := by
          rcases hN with ⟨h, _⟩ | ⟨N, MB, h1, h2, h3⟩
          · cases h
          · cases h1; exact ⟨N, MB, rfl, (hBw.block N (Array.getElem?_eq_some_iff.1 h2).1).trans h2, h3⟩
        subst hx
        have FR := Lib.hid (with_copy w0 0 f c w _ _ W0 hW0 N _ _ hrow ⟨rfl, .inr ⟨MB, rfl, hleaf⟩⟩)
        have hr0 := FR.out.2.1
        have hr1 := FR.out.2.2
        clear hW0 hN hrow hleaf
        refine wp_region_lit ?_
        go_step
        go_step
        go_step
        go_step
        go_step
        go_step
        refine wpList_load_row rfl 106 (.tmp 14) (by rfl) N (by rfl) 106 _ (0, 0) _ hr0 Tryz.underlying106 (by rfl) infoNode ?_
        refine wpList_store_row rfl 106 (.tmp 9) (.tmp 15) (by rfl) (w.heap.size + 1) (kidCells (fun _ => none) (.map (some MB))) (by rfl) (by rfl) 106 _ hr1 infoNode (by rfl) (kid_one _ _ rfl) ?_
        simp only [Act.put, List.setIfInBounds_toArray, List.set_cons_zero, List.set_cons_succ]
        go_wp2
        go_meet
        exact Lib.hid FR.out.1
    case rest =>
      obtain ⟨hB, hsz, hbox, ks, u, hrow, rfl, hu⟩ := hcut.out
      have hc16 : wc.cell? ⟨w.heap.size + 1, 16, none⟩ = some u := (cell_of_row wc _ 16 _ _ _ hrow).trans (kidCells_last _ _)
      have hf16 : wc.frozen? ⟨w.heap.size + 1, 16, none⟩ = false := frozen_of_row wc _ 16 _ _ hrow
      have b0 := hbox 0 _ rfl
      have b1 := hbox 1 _ rfl
      have b2 := hbox 2 _ rfl
      have b3 := hbox 3 _ rfl
      have K := Maps.int_keyed Tryz.underlying2
      have hkey : keyOf Tryz.prog 2 (.int .i64 v) = some (.int .i64 v) := Maps.keyOf_int_mk Tryz.underlying2 (wf64 (by omega))
      have hu : Tryz.prog.underlying 104 = some (.map 2 25) := by kernel_rfl
      have hC0 : w.heap.size < wc.heap.size := by omega
      have hC1 : w.heap.size + 1 < wc.heap.size := by omega
      have hC2 : ¬ wc.heap.size = w.heap.size + 1 := by omega
      have hC3 : ¬ wc.heap.size = w.heap.size := by omega
      have FB := Lib.hid hB
      have FS := Lib.hid hsz
      have FR := Lib.hid hrow
      rename_i hu0
      rcases hu0 with ⟨rfl, hf⟩ | ⟨MB, rfl, hleaf⟩
      · have hq := fun w => run_eql_map_nil_sl (P := Tryz.prog) w 104 _ _ none hu
        have hmm := @run_makeMap Tryz.prog
        have HF := Lib.hid hf
        clear hcut hbox hrow hW0 hB hsz hf
        go_wp2_with fail
        refine (mclone_nil _).mono ?_
        rintro e w' ⟨rfl, rfl⟩
        have hrow1 : ∀ o : Obj, (((w'.setCell ⟨w.heap.size + 1, 16, none⟩ (.map none)).setCell ⟨w.heap.size + 1, 16, none⟩ (.map (some w'.heap.size))).alloc o).heap[w.heap.size + 1]? = some (.cells (kidCells (fun _ => none) (.map (some w'.heap.size))) 106 (0, 0)) := fun o => by
          rw [Below.heap_alloc _ _ _ (by simpa using hC1)]
          exact (heap_setCell_same _ _ _ _ _ _ (heap_setCell_same _ _ _ _ _ _ FR.out))
        have O1 : (((w'.setCell ⟨w.heap.size + 1, 16, none⟩ (.map none)).setCell ⟨w.heap.size + 1, 16, none⟩ (.map (some w'.heap.size))).alloc (.map #[] 0)).ownsMap Tryz.prog 2 heldElem w'.heap.size 0 (.map []) := by
          have h := World.ownsMap_made (H := Value) ((w'.setCell ⟨w.heap.size + 1, 16, none⟩ (.map none)).setCell ⟨w.heap.size + 1, 16, none⟩ (.map (some w'.heap.size))) Tryz.prog 2 heldElem
          have e : ((w'.setCell ⟨w.heap.size + 1, 16, none⟩ (.map none)).setCell ⟨w.heap.size + 1, 16, none⟩ (.map (some w'.heap.size))).heap.size = w'.heap.size := by simp
          rw [e] at h
          exact h
        have OWN := Lib.hid O1
        have ROW := Lib.hid (hrow1 (.map #[] 0))
        clear O1 hrow1
        go_wp2_with (at_mapUpdate; go_loud (refine wpList_mapUpdate_own _ rfl _ _ _ 104 rfl 2 25 K Tryz.underlying104 heldElem w'.heap.size 0 (.map []) rfl OWN.out (by decide) (.int .i64 v) (.agg #[.int .u8 k, .string s, .int .i64 n, .slice p kids.len d]) _ rfl rfl hkey _ [] rfl ?_; intro w1 hown1 hgrow1; have X := Lib.hid (And.intro hown1 hgrow1); clear hown1 hgrow1))
        clear hq hmm
        go_ret
        have hBW : Below w.heap.size w (((w'.setCell ⟨w.heap.size + 1, 16, none⟩ (.map none)).setCell ⟨w.heap.size + 1, 16, none⟩ (.map (some w'.heap.size))).alloc (.map #[] 0)) := (((FB.out.setCell (p := ⟨w.heap.size + 1, 16, none⟩) (Nat.le_succ _) _).setCell (p := ⟨w.heap.size + 1, 16, none⟩) (Nat.le_succ _) _)).alloc (by simp; omega) _
        have hfin := leaf_done (w0 := w0) (x := ⟨k, s, n, p, d, kids⟩) (c := c) (f := f) (by omega) hBW (by simp; omega) (Nat.le_succ _) (by omega) ROW.out OWN.out (Nat.zero_le _) (fun u _ => ⟨by rw [HF.out u]; rfl, by rw [HF.out u]; rfl⟩) X.out.1 X.out.2
        exact ⟨_, rfl, hfin.1, hfin.2⟩
      · obtain ⟨m, D, hm, hown, hD⟩ := hleaf
        have HD := Lib.hid hD
        have OWN0 := Lib.hid (ownsMap_moved hown ((hBw.trans (FB.out.mono hBw.size)).block MB hown.lt))
        have hmc : m < maxLen := by unfold maxLen; omega
        clear hcut hbox hrow hW0 hB hsz hD hown
        go_wp2_with fail
        refine (mclone_any MB m D _ OWN0.out).mono ?_
        rintro e w' ⟨o, rfl, hw', hown'⟩
        have hq := fun w => run_eql_map_nil_sl (P := Tryz.prog) w 104 _ _ (some wc.heap.size) hu
        have hrow1 : (w'.setCell ⟨w.heap.size + 1, 16, none⟩ (.map (some wc.heap.size))).heap[w.heap.size + 1]? = some (.cells (kidCells (fun _ => none) (.map (some wc.heap.size))) 106 (0, 0)) := by
          exact heap_setCell_same _ _ _ (kidCells (fun _ => none) (.map (some MB))) _ _ (by rw [hw', Below.heap_alloc _ _ _ hC1]; exact FR.out)
        have hBW : Below w.heap.size w (w'.setCell ⟨w.heap.size + 1, 16, none⟩ (.map (some wc.heap.size))) := by
          rw [hw']; exact (FB.out.alloc (by omega) _).setCell (p := ⟨w.heap.size + 1, 16, none⟩) (Nat.le_succ _) _
        have hsz' : w'.heap.size = wc.heap.size + 1 := by rw [hw']; simp
        have hown2 : (w'.setCell ⟨w.heap.size + 1, 16, none⟩ (.map (some wc.heap.size))).ownsMap Tryz.prog 2 heldElem wc.heap.size m D := hown'.setCell (by show wc.heap.size ≠ w.heap.size + 1; omega) _
        have old : ∀ b y, b < wc.heap.size → w'.cell? ⟨b, y, none⟩ = wc.cell? ⟨b, y, none⟩ := fun b y hb => by rw [hw']; exact World.cell?_of_block (a := ⟨b, y, none⟩) (Below.heap_alloc _ _ _ hb)
        have hc16' : w'.cell? ⟨w.heap.size + 1, 16, none⟩ = some (.map (some MB)) := (old _ _ hC1).trans hc16
        have hf16' : w'.frozen? ⟨w.heap.size + 1, 16, none⟩ = false := by rw [hw']; exact (World.frozen?_of_block (a := ⟨w.heap.size + 1, 16, none⟩) (Below.heap_alloc _ _ _ hC1)).trans hf16
        have d0 := (old _ 0 hC0).trans b0
        have d1 := (old _ 1 hC0).trans b1
        have d2 := (old _ 2 hC0).trans b2
        have d3 := (old _ 3 hC0).trans b3
        have ROW := Lib.hid hrow1
        have BW := Lib.hid hBW
        have OWN := Lib.hid hown2
        have SZ := Lib.hid hsz'
        clear hw' hown' hrow1 hBW hown2 hsz' old b0 b1 b2 b3 hc16 hf16
        go_wp2_with (at_mapUpdate; go_loud (refine wpList_mapUpdate_own _ rfl _ _ _ 104 rfl 2 25 K Tryz.underlying104 heldElem wc.heap.size m D rfl OWN.out hmc (.int .i64 v) (.agg #[.int .u8 k, .string s, .int .i64 n, .slice p kids.len d]) _ rfl rfl hkey _ [] rfl ?_; intro w1 hown1 hgrow1; have X := Lib.hid (And.intro hown1 hgrow1); clear hown1 hgrow1))
        clear hq
        go_ret
        have hs1 := SZ.out
        have hfin := leaf_done (w0 := w0) (x := ⟨k, s, n, p, d, kids⟩) (c := c) (f := f) (by omega) BW.out (by simp; omega) (Nat.le_succ _) (by omega) ROW.out OWN.out hm HD.out X.out.1 X.out.2
        exact ⟨_, rfl, hfin.1, hfin.2⟩
  | succ l ih =>
    intro hl q f c v k s n p kids d w0 w hN hBw hc hv
    obtain ⟨L, hL⟩ : ∃ L, L = l + 1 := ⟨_, rfl⟩
    rw [← hL] at hN hl ⊢
    have hL0 : 0 < L := by omega
    have hL1 : 0 < (L : Int) := by omega
    have LL := Lib.hid hL
    clear hL
    go_enter Tryz.func70, Tryz.ntmps70
    go_upto_if 12 with fail
    obtain ⟨W0, hW0⟩ : ∃ W0, W0 = (w.alloc (.cells #[.int .u8 k, .string s, .int .i64 n, .slice p kids.len d] 25)).alloc (.cells #[.pointer none, .pointer none, .pointer none, .pointer none, .pointer none, .pointer none, .pointer none, .pointer none, .pointer none, .pointer none, .pointer none, .pointer none, .pointer none, .pointer none, .pointer none, .pointer none, .map none] 106) := ⟨_, rfl⟩
    rw [← hW0]
    go_cut [] from 10 (fun W => Hid (Fresh w0 w c L (w.heap.size + 1) f #[.int .u8 k, .string s, .int .i64 n, .slice p kids.len d] W))
    case first =>
      cases q with
      | none =>
        have FR := Lib.hid (with_start w0 L none f c w hN _ _ W0 hW0 rfl)
        clear hW0 hN ih
        go_wp2
        go_meet
        exact FR
      | some x =>
        go_upto_region 3 with fail
        obtain ⟨N, ks, hx, hrow, hkids⟩ : ∃ N ks, x = ⟨N, 0, none⟩ ∧ w.heap[N]? = some (.cells (kidCells ks (.map none)) 106 (0, 0)) ∧ ∀ i, i < 16 → NodeAt w0 c l (ks i) (only f L i) := by
          rw [LL.out] at hN ⊢
          rcases hN with ⟨h, _⟩ | ⟨N, MB, h1, h2, h3⟩
          · cases h
          · cases h1; exact ⟨N, MB, rfl, (hBw.block N (Array.getElem?_eq_some_iff.1 h2).1).trans h2, h3⟩
        subst hx
        have FR := Lib.hid (with_copy w0 L f c w _ _ W0 hW0 N _ _ hrow (by rw [LL.out] at hkids ⊢; exact ⟨rfl, hkids⟩))
        have hr0 := FR.out.2.1
        have hr1 := FR.out.2.2
        clear hW0 hN hrow hkids ih
        refine wp_region_lit ?_
        go_step
        go_step
        go_step
        go_step
        go_step
        go_step
        refine wpList_load_row rfl 106 (.tmp 14) (by rfl) N (by rfl) 106 _ (0, 0) _ hr0 Tryz.underlying106 (by rfl) infoNode ?_
        refine wpList_store_row rfl 106 (.tmp 9) (.tmp 15) (by rfl) (w.heap.size + 1) (kidCells ks (.map none)) (by rfl) (by rfl) 106 _ hr1 infoNode (by rfl) (kid_one _ _ rfl) ?_
        simp only [Act.put, List.setIfInBounds_toArray, List.set_cons_zero, List.set_cons_succ]
        go_wp2
        go_meet
        exact Lib.hid FR.out.1
    case rest =>
      obtain ⟨hB, hsz, hbox, ks, u, hrow, hcp⟩ := hcut.out
      obtain ⟨rfl, hks⟩ : u = .map none ∧ ∀ i, i < 16 → NodeAt w0 c l (ks i) (only f L i) := by rw [LL.out] at hcp ⊢; exact hcp
      clear hcp
      have hki := kidOf_lt v L
      have hck : ∀ i, i < 16 → wc.cell? ⟨w.heap.size + 1, i, none⟩ = some (.pointer (ks i)) := fun i hi => (cell_of_row wc _ i _ _ _ hrow).trans (kidCells_kid _ _ i hi)
      have hfk : ∀ i, wc.frozen? ⟨w.heap.size + 1, i, none⟩ = false := fun i => frozen_of_row wc _ i _ _ hrow
      have CK := Lib.hid hck
      have FK := Lib.hid hfk
      have FB := Lib.hid hB
      have FS := Lib.hid hsz
      have FR := Lib.hid hrow
      have BX := Lib.hid hbox
      have KS := Lib.hid hks
      have IH := Lib.hid ih
      have BW := Lib.hid hBw
      have hC0 : w.heap.size < wc.heap.size := by omega
      have hC1 : w.heap.size + 1 < wc.heap.size := by omega
      have hk0 : 0 ≤ ((kidOf v L) : Int) := by omega
      have hk16 : ((kidOf v L) : Int) < 16 := by omega
      clear hcut hbox hrow hW0 hB hsz hck hfk hks ih hN hBw
      go_upto_region 5 with fail
      refine region_facts_last (fun W => Below wc.heap.size wc W) [fun u _ => u = .int .i64 v, fun u _ => u = .int .u64 (L : Int), fun u _ => u = .int .i64 ((kidOf v L) : Int), fun u _ => u = .int .i64 v, fun u _ => u = .int .u64 (L : Int), fun u _ => u = .int .i64 ((kidOf v L) : Int), fun u _ => u = .pointer (some ⟨w.heap.size + 1, 0, none⟩), fun u _ => u = .pointer (some ⟨w.heap.size + 1, kidOf v L, none⟩), fun u _ => u = .pointer (ks (kidOf v L)), fun u _ => u = .int .u64 (L : Int), fun u _ => u = .int .u64 (l : Int), fun u _ => u = .int .i64 v, fun u _ => u = .agg #[.int .u8 k, .string s, .int .i64 n, .slice p kids.len d], fun u W => ∃ N V V', u = .pointer (some N) ∧ NodeFor w0 V V' (c + 1) l (some N) ((only f L (kidOf v L)).put v ⟨k, s, n, p, d, kids⟩) ∧ (wc.heap.size ≤ V.heap.size ∧ V.heap.size ≤ V'.heap.size) ∧ Below V'.heap.size V' W, fun u _ => u = .pointer (some ⟨w.heap.size + 1, 0, none⟩), fun u _ => u = .pointer (some ⟨w.heap.size + 1, kidOf v L, none⟩)]
        ⟨.eq _, .eq _, .eq _, .eq _, .eq _, .eq _, .eq _, .eq _, .eq _, .eq _, .eq _, .eq _, .eq _, (fun _ _ _ ⟨N, V, V', h, h1, h2, h3⟩ hB => ⟨N, V, V', h, h1, h2, h3.trans (hB.mono h3.size)⟩), .eq _, .eq _, trivial⟩ (by kernel_rfl) (by kernel_rfl) (by kernel_rfl) (by kernel_rfl) (Below.refl _ _).drew ?_ (by decide)
      refine ⟨?_, ?_, ?_, ?_, ?_, ?_, ?_, ?_, ?_, ?_, ?_, ?_, ?_, ?_, ?_, ?_, ?_⟩
      · intro g W hI hd K hK
        simp only [frameOf, Act.put, List.setIfInBounds_toArray, List.set_cons_zero, List.set_cons_succ]
        go_simp
        refine hK.out (.int .i64 v) _ W ?_ hI (Below.refl _ _) rfl
        simp only [frameOf, Act.put, List.setIfInBounds_toArray, List.set_cons_zero, List.set_cons_succ, Nat.zero_add, Nat.reduceAdd]
      · intro g W hI hd K hK
        simp only [frameOf, Act.put, List.setIfInBounds_toArray, List.set_cons_zero, List.set_cons_succ]
        go_simp
        refine hK.out (.int .u64 (L : Int)) _ W ?_ hI (Below.refl _ _) rfl
        simp only [frameOf, Act.put, List.setIfInBounds_toArray, List.set_cons_zero, List.set_cons_succ, Nat.zero_add, Nat.reduceAdd]
      · intro g W hI hd K hK
        simp only [frameOf, Act.put, List.setIfInBounds_toArray, List.set_cons_zero, List.set_cons_succ]
        have h0 : g 0 = .int .i64 v := hd 0 (by kernel_rfl)
        have h1 : g 1 = .int .u64 (L : Int) := hd 1 (by kernel_rfl)
        rw [h0, h1]
        go_simp
        refine (kid_at v hv L (by omega) _ (by omega) W).mono ?_
        rintro e w' ⟨rfl, rfl⟩
        refine hK.out (.int .i64 ((kidOf v L) : Int)) _ _ ?_ hI (Below.refl _ _) rfl
        simp only [frameOf, Act.put, List.setIfInBounds_toArray, List.set_cons_zero, List.set_cons_succ, Nat.zero_add, Nat.reduceAdd, h0, h1]
      · intro g W hI hd K hK
        simp only [frameOf, Act.put, List.setIfInBounds_toArray, List.set_cons_zero, List.set_cons_succ]
        go_simp
        refine hK.out (.int .i64 v) _ W ?_ hI (Below.refl _ _) rfl
        simp only [frameOf, Act.put, List.setIfInBounds_toArray, List.set_cons_zero, List.set_cons_succ, Nat.zero_add, Nat.reduceAdd]
      · intro g W hI hd K hK
        simp only [frameOf, Act.put, List.setIfInBounds_toArray, List.set_cons_zero, List.set_cons_succ]
        go_simp
        refine hK.out (.int .u64 (L : Int)) _ W ?_ hI (Below.refl _ _) rfl
        simp only [frameOf, Act.put, List.setIfInBounds_toArray, List.set_cons_zero, List.set_cons_succ, Nat.zero_add, Nat.reduceAdd]
      · intro g W hI hd K hK
        simp only [frameOf, Act.put, List.setIfInBounds_toArray, List.set_cons_zero, List.set_cons_succ]
        have h3 : g 3 = .int .i64 v := hd 3 (by kernel_rfl)
        have h4 : g 4 = .int .u64 (L : Int) := hd 4 (by kernel_rfl)
        rw [h3, h4]
        go_simp
        refine (kid_at v hv L (by omega) _ (by omega) W).mono ?_
        rintro e w' ⟨rfl, rfl⟩
        refine hK.out (.int .i64 ((kidOf v L) : Int)) _ _ ?_ hI (Below.refl _ _) rfl
        simp only [frameOf, Act.put, List.setIfInBounds_toArray, List.set_cons_zero, List.set_cons_succ, Nat.zero_add, Nat.reduceAdd, h3, h4]
      · intro g W hI hd K hK
        simp only [frameOf, Act.put, List.setIfInBounds_toArray, List.set_cons_zero, List.set_cons_succ]
        go_simp
        refine hK.out (.pointer (some ⟨w.heap.size + 1, 0, none⟩)) _ W ?_ hI (Below.refl _ _) rfl
        simp only [frameOf, Act.put, List.setIfInBounds_toArray, List.set_cons_zero, List.set_cons_succ, Nat.zero_add, Nat.reduceAdd]
      · intro g W hI hd K hK
        simp only [frameOf, Act.put, List.setIfInBounds_toArray, List.set_cons_zero, List.set_cons_succ]
        have h6 : g 6 = .pointer (some ⟨w.heap.size + 1, 0, none⟩) := hd 6 (by kernel_rfl)
        have h5 : g 5 = .int .i64 ((kidOf v L) : Int) := hd 5 (by kernel_rfl)
        rw [h6, h5]
        go_simp
        refine hK.out (.pointer (some ⟨w.heap.size + 1, kidOf v L, none⟩)) _ W ?_ hI (Below.refl _ _) rfl
        simp only [frameOf, Act.put, List.setIfInBounds_toArray, List.set_cons_zero, List.set_cons_succ, Nat.zero_add, Nat.reduceAdd, h6, h5]
      · intro g W hI hd K hK
        simp only [frameOf, Act.put, List.setIfInBounds_toArray, List.set_cons_zero, List.set_cons_succ]
        have h7 : g 7 = .pointer (some ⟨w.heap.size + 1, kidOf v L, none⟩) := hd 7 (by kernel_rfl)
        rw [h7]
        have c8 := (hI.cell (p := ⟨w.heap.size + 1, kidOf v L, none⟩) hC1).trans (CK.out _ hki)
        go_simp
        refine hK.out (.pointer (ks (kidOf v L))) _ W ?_ hI (Below.refl _ _) rfl
        simp only [frameOf, Act.put, List.setIfInBounds_toArray, List.set_cons_zero, List.set_cons_succ, Nat.zero_add, Nat.reduceAdd, h7]
      · intro g W hI hd K hK
        simp only [frameOf, Act.put, List.setIfInBounds_toArray, List.set_cons_zero, List.set_cons_succ]
        go_simp
        refine hK.out (.int .u64 (L : Int)) _ W ?_ hI (Below.refl _ _) rfl
        simp only [frameOf, Act.put, List.setIfInBounds_toArray, List.set_cons_zero, List.set_cons_succ, Nat.zero_add, Nat.reduceAdd]
      · intro g W hI hd K hK
        simp only [frameOf, Act.put, List.setIfInBounds_toArray, List.set_cons_zero, List.set_cons_succ]
        have h9 : g 9 = .int .u64 (L : Int) := hd 9 (by kernel_rfl)
        rw [h9]
        go_simp
        rw [show IntKind.u64.wrap ((L : Int) - 1) = (l : Int) by have := LL.out; rw [IntWalk.u64_in _ (by omega)]; omega]
        refine hK.out (.int .u64 (l : Int)) _ W ?_ hI (Below.refl _ _) rfl
        simp only [frameOf, Act.put, List.setIfInBounds_toArray, List.set_cons_zero, List.set_cons_succ, Nat.zero_add, Nat.reduceAdd, h9]
      · intro g W hI hd K hK
        simp only [frameOf, Act.put, List.setIfInBounds_toArray, List.set_cons_zero, List.set_cons_succ]
        go_simp
        refine hK.out (.int .i64 v) _ W ?_ hI (Below.refl _ _) rfl
        simp only [frameOf, Act.put, List.setIfInBounds_toArray, List.set_cons_zero, List.set_cons_succ, Nat.zero_add, Nat.reduceAdd]
      · intro g W hI hd K hK
        simp only [frameOf, Act.put, List.setIfInBounds_toArray, List.set_cons_zero, List.set_cons_succ]
        have c0 := (hI.cell (p := ⟨w.heap.size, 0, none⟩) hC0).trans (BX.out 0 _ rfl)
        have c1 := (hI.cell (p := ⟨w.heap.size, 1, none⟩) hC0).trans (BX.out 1 _ rfl)
        have c2 := (hI.cell (p := ⟨w.heap.size, 2, none⟩) hC0).trans (BX.out 2 _ rfl)
        have c3 := (hI.cell (p := ⟨w.heap.size, 3, none⟩) hC0).trans (BX.out 3 _ rfl)
        go_simp
        refine hK.out (.agg #[.int .u8 k, .string s, .int .i64 n, .slice p kids.len d]) _ W ?_ hI (Below.refl _ _) rfl
        simp only [frameOf, Act.put, List.setIfInBounds_toArray, List.set_cons_zero, List.set_cons_succ, Nat.zero_add, Nat.reduceAdd]
      · intro g W hI hd K hK
        simp only [frameOf, Act.put, List.setIfInBounds_toArray, List.set_cons_zero, List.set_cons_succ]
        have h8 : g 8 = .pointer (ks (kidOf v L)) := hd 8 (by kernel_rfl)
        have h10 : g 10 = .int .u64 (l : Int) := hd 10 (by kernel_rfl)
        have h11 : g 11 = .int .i64 v := hd 11 (by kernel_rfl)
        have h12 : g 12 = .agg #[.int .u8 k, .string s, .int .i64 n, .slice p kids.len d] := hd 12 (by kernel_rfl)
        rw [h8, h10, h11, h12]
        go_simp
        refine (IH.out (by have := LL.out; omega) (ks (kidOf v L)) (only f L (kidOf v L)) c v k s n p kids d w0 W (KS.out _ hki) (BW.out.trans ((FB.out.mono BW.out.size).trans (hI.mono (by have := BW.out.size; have := FB.out.size; omega)))) hc hv).mono ?_
        rintro e w' ⟨N, rfl, hn, hB⟩
        refine hK.out (.pointer (some N)) _ _ ?_ (hI.trans (hB.mono hI.size)) hB ⟨N, W, w', rfl, hn, ⟨hI.size, hB.size⟩, Below.refl _ _⟩
        simp only [frameOf, Act.put, List.setIfInBounds_toArray, List.set_cons_zero, List.set_cons_succ, Nat.zero_add, Nat.reduceAdd, h8, h10, h11, h12]
      · intro g W hI hd K hK
        simp only [frameOf, Act.put, List.setIfInBounds_toArray, List.set_cons_zero, List.set_cons_succ]
        go_simp
        refine hK.out (.pointer (some ⟨w.heap.size + 1, 0, none⟩)) _ W ?_ hI (Below.refl _ _) rfl
        simp only [frameOf, Act.put, List.setIfInBounds_toArray, List.set_cons_zero, List.set_cons_succ, Nat.zero_add, Nat.reduceAdd]
      · intro g W hI hd K hK
        simp only [frameOf, Act.put, List.setIfInBounds_toArray, List.set_cons_zero, List.set_cons_succ]
        have h14 : g 14 = .pointer (some ⟨w.heap.size + 1, 0, none⟩) := hd 14 (by kernel_rfl)
        have h2 : g 2 = .int .i64 ((kidOf v L) : Int) := hd 2 (by kernel_rfl)
        rw [h14, h2]
        go_simp
        refine hK.out (.pointer (some ⟨w.heap.size + 1, kidOf v L, none⟩)) _ W ?_ hI (Below.refl _ _) rfl
        simp only [frameOf, Act.put, List.setIfInBounds_toArray, List.set_cons_zero, List.set_cons_succ, Nat.zero_add, Nat.reduceAdd, h14, h2]
      · intro g W hI hd K hK
        simp only [frameOf, Act.put, List.setIfInBounds_toArray, List.set_cons_zero, List.set_cons_succ]
        obtain ⟨N, V, V', h13, hnode, hVs, hVW⟩ := hd 13 (by decide)
        have h15 : g 15 = .pointer (some ⟨w.heap.size + 1, kidOf v L, none⟩) := hd 15 (by decide)
        rw [h13, h15]
        have c15 := (hI.cell (p := ⟨w.heap.size + 1, kidOf v L, none⟩) hC1).trans (CK.out _ hki)
        have f15 := (hI.frozen (p := ⟨w.heap.size + 1, kidOf v L, none⟩) hC1).trans (FK.out _)
        have NN := Lib.hid hnode
        clear hnode hd
        go_simp
        refine hK.out undef _ _ ?_ ?_
        · simp only [frameOf, Act.put, List.setIfInBounds_toArray, List.set_cons_zero, List.set_cons_succ, Nat.zero_add, Nat.reduceAdd, h13, h15]
        · simp only [frameOf, Act.put, List.setIfInBounds_toArray, List.set_cons_zero, List.set_cons_succ]
          go_wp2
          go_ret
          have hWs := hI.size
          have hrow1 := heap_setCell_same W (w.heap.size + 1) (kidOf v L) (kidCells ks (.map none)) 106 (.pointer (some N)) ((hI.block _ hC1).trans FR.out)
          rw [kidCells_put _ _ _ _ hki] at hrow1
          refine ⟨⟨w.heap.size + 1, 0, none⟩, rfl, fun w2 hw2 => ?_, ((FB.out.trans (hI.mono FB.out.size)).setCell (p := ⟨w.heap.size + 1, kidOf v L, none⟩) (Nat.le_succ _) _)⟩
          rw [LL.out]
          have hw0 := BW.out.size
          refine .inr ⟨w.heap.size + 1, putKid ks (kidOf v L) (some N), rfl, (hw2 _ (.inr ⟨by omega, by simp; omega⟩)).trans hrow1, fun i hi => ?_⟩
          rw [← LL.out]
          by_cases e : i = kidOf v L
          · subst e
            have h1 : putKid ks (kidOf v L) (some N) (kidOf v L) = some N := by simp [putKid]
            have h2 : only (f.put v ⟨k, s, n, p, d, kids⟩) L (kidOf v L) = (only f L (kidOf v L)).put v ⟨k, s, n, p, d, kids⟩ := by
              funext u
              simp only [only, Sb.put]
              by_cases hu : u = v
              · subst hu; simp
              · simp [hu]
            rw [h1, h2]
            refine NN.out w2 fun b hb => ?_
            have hV2 := hVW.size
            rcases hb with hb | ⟨hb1, hb2⟩
            · rw [hw2 b (.inl hb), Below.heap_setCell _ _ _ _ (by show b ≠ w.heap.size + 1; omega)]
              exact hVW.block b (by have := hI.size; omega)
            · rw [hw2 b (.inr ⟨by omega, by simp; omega⟩), Below.heap_setCell _ _ _ _ (by show b ≠ w.heap.size + 1; omega)]
              exact hVW.block b hb2
          · have h1 : putKid ks (kidOf v L) (some N) i = ks i := by simp [putKid, e]
            have h2 : only (f.put v ⟨k, s, n, p, d, kids⟩) L i = only f L i := by
              funext u
              simp only [only, Sb.put]
              by_cases hu : u = v
              · subst hu; rw [if_neg (fun h => e h.symm), if_neg (fun h => e h.symm)]
              · simp [hu]
            rw [h1, h2]
            have hold : ∀ b, b < w0.heap.size → w2.heap[b]? = w0.heap[b]? := fun b hb => by
              rw [hw2 b (.inl hb), Below.heap_setCell _ _ _ _ (by show b ≠ w.heap.size + 1; omega)]
              exact (hI.block b (by omega)).trans ((FB.out.block b (by omega)).trans (BW.out.block b hb))
            exact (KS.out i hi).stay (Nat.le_succ _) (fun b hb => hold b (by
              rcases hb with ⟨_, _, h⟩ | ⟨_, _, h⟩
              all_goals exact (Array.getElem?_eq_some_iff.1 h).1))

end Go.Proofs.YtnmhnaanpjlniaaGreat
