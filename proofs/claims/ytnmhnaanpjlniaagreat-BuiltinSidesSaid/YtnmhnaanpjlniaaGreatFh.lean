import Derived.Test.YtnmhnaanpjlniaaGreatFf
/-
  What the builtins' functions do: tests of applied terms, of numbers, of kinds. (Written by gen_fg.py.)
-/
namespace Go.Proofs.YtnmhnaanpjlniaaGreat
open Go.RowKit

noncomputable def apE (σ : Sb) (t : Nd) : Int := if (vis σ 4097 [t]).length = 4097 then 31 else 0
open Classical in
noncomputable def apX (σ : Sb) (t : Nd) : Nd := if h : ∃ X, Ap σ t X then Classical.choose h else ⟨0, ⟨#[]⟩, 0, none, 0, .nil⟩
theorem apX_tw {σ : Sb} {t X : Nd} (h : Ap σ t X) : X.twin (apX σ t) := by
  have hx : ∃ X, Ap σ t X := ⟨X, h⟩
  unfold apX
  rw [dif_pos hx]
  exact h.same (Classical.choose_spec hx)

def ordN (x y : Nd) : Int × Bool := ordH x.k y.k x.s y.s x.n y.n x.kids y.kids (ordL x.kids y.kids)
def ordC : Nat → Int → Bool
  | 0, d => decide (d < 0)
  | 1, d => decide (0 < d)
  | 2, d => decide (d ≤ 0)
  | _, d => decide (0 ≤ d)
def ordR (i : Nat) (p : Int × Bool) : Bool × Int := if p.2 = true then (ordC i p.1, 0) else (false, 20)
def cmpI : Nat → Int → Int → Bool
  | 0, l, r => l == r
  | 1, l, r => l != r
  | 2, l, r => decide (l < r)
  | 3, l, r => decide (r < l)
  | 4, l, r => decide (l ≤ r)
  | _, l, r => decide (r ≤ l)

/-- what is told of both Args, applied -/
noncomputable def apP (σ : Sb) (a b : Nd) (f : Nd → Nd → Bool × Int) : Bool × Int :=
  if apE σ a = 0 then (if apE σ b = 0 then f (apX σ a) (apX σ b) else (false, apE σ b)) else (false, apE σ a)
/-- what is told of both Args, reckoned -/
noncomputable def rkP (σ : Sb) (a b : Nd) (f : Int → Int → Bool) : Bool × Int :=
  if (rk σ 4096 4096 a).1.2 = 0 then (if (rk σ 4096 4096 b).1.2 = 0 then (f (rk σ 4096 4096 a).1.1 (rk σ 4096 4096 b).1.1, 0) else (false, (rk σ 4096 4096 b).1.2)) else (false, (rk σ 4096 4096 a).1.2)
def doneR (r : Bool × Int) : Bool × Int := if (r.2 != 0 || !r.1) = true then (false, r.2) else (true, 0)

theorem ordL_twin : ∀ {ts us ts' us' : Ts}, Ts.twin ts ts' → Ts.twin us us' → ordL ts us = ordL ts' us'
  | .nil, us, ts', us', h, h' => by
    cases ts' with
    | nil => cases us <;> cases us' <;> rfl
    | cons => cases h
  | .cons k s n p c ks r, us, ts', us', h, h' => by
    cases ts' with
    | nil => cases h
    | cons k1 s1 n1 p1 c1 ks1 r1 =>
      obtain ⟨rfl, rfl, rfl, h4, h5⟩ := h
      cases us with
      | nil =>
        cases us' with
        | nil => rfl
        | cons => cases h'
      | cons k2 s2 n2 p2 c2 ks2 r2 =>
        cases us' with
        | nil => cases h'
        | cons k3 s3 n3 p3 c3 ks3 r3 =>
          obtain ⟨rfl, rfl, rfl, g4, g5⟩ := h'
          have e1 := ordL_twin h4 g4
          have e2 := ordL_twin h5 g5
          have e3 : ordH k k2 s s2 n n2 ks ks2 (ordL ks ks2) = ordH k k2 s s2 n n2 ks1 ks3 (ordL ks1 ks3) := by
            unfold ordH
            rw [e1, cmpT_twin h4 g4, Ts.twin_len _ _ h4, Ts.twin_len _ _ g4]
          simp only [ordL, e2, e3]
theorem ordN_twin {x y x' y' : Nd} (h : x.twin x') (h' : y.twin y') : ordN x y = ordN x' y' := by
  unfold ordN ordH
  rw [h.1, h.2.1, h.2.2.1, h'.1, h'.2.1, h'.2.2.1, ordL_twin h.2.2.2 h'.2.2.2, cmpT_twin h.2.2.2 h'.2.2.2, Ts.twin_len _ _ h.2.2.2, Ts.twin_len _ _ h'.2.2.2]
theorem sameB_twin {x y x' y' : Nd} (h : x.twin x') (h' : y.twin y') : sameB x y = sameB x' y' := by
  unfold sameB headAlike
  rw [h.1, h.2.1, h.2.2.1, h'.1, h'.2.1, h'.2.2.1, twin_alike_both h.2.2.2 h'.2.2.2]

theorem box2N (w : World) (x y : Nd) (t : TypeId) : ∃ W, W = (w.alloc (.cells #[.int .u8 x.k, .string x.s, .int .i64 x.n, .slice x.p x.kids.len x.c] t)).alloc (.cells #[.int .u8 y.k, .string y.s, .int .i64 y.n, .slice y.p y.kids.len y.c] t) ∧ Below w.heap.size w W ∧ BoxIs w.heap.size x W ∧ BoxIs (w.heap.size + 1) y W := by
  obtain ⟨W, hW, hs, hB, h1, h2⟩ := box2 w #[.int .u8 x.k, .string x.s, .int .i64 x.n, .slice x.p x.kids.len x.c] #[.int .u8 y.k, .string y.s, .int .i64 y.n, .slice y.p y.kids.len y.c] t t
  have hB1 := BoxIs.new w x t
  have hB2 := BoxIs.new (w.alloc (.cells #[.int .u8 x.k, .string x.s, .int .i64 x.n, .slice x.p x.kids.len x.c] t)) y t
  refine ⟨W, hW, hB, ?_, ?_⟩
  · rw [hW]; exact hB1.below ((Below.refl _ _).alloc (Nat.le_refl _) _)
  · rw [hW]; rw [World.size_alloc] at hB2; exact hB2

set_option maxRecDepth 100000 in
set_option maxHeartbeats 4000000 in
theorem same1_any (w : World) (X Y : Nd) (hokX : X.kids.ok) (hokY : Y.kids.ok) (hlx : X.kids.size ≤ 5000) (hly : Y.kids.size ≤ 5000) (hatX : Ts.At w X.p X.kids) (hatY : Ts.At w Y.p Y.kids) (cb : Nat) (wd : Bool) (hcb : w.cell? ⟨cb, 0, none⟩ = some (.bool wd)) :
    Calls Tryz.prog 108 #[.agg #[.int .u8 X.k, .string X.s, .int .i64 X.n, .slice X.p X.kids.len X.c], .agg #[.int .u8 Y.k, .string Y.s, .int .i64 Y.n, .slice Y.p Y.kids.len Y.c], .pointer (some ⟨cb, 0, none⟩)] w fun e w' => e = .returned (.tuple #[.bool (sameB X Y == wd), .int .i64 0]) ∧ Below w.heap.size w w' := by
  have hcz := World.block_lt_of_cell? _ _ hcb
  have CB := Lib.hid hcb
  have hlx := Nat.le_trans (Ts.len_size X.kids) (Nat.le_trans hlx (by omega : (5000 : Nat) ≤ 9223372036854775807))
  have hly := Nat.le_trans (Ts.len_size Y.kids) (Nat.le_trans hly (by omega : (5000 : Nat) ≤ 9223372036854775807))
  clear hcb
  simp only at hcz
  have hatX := Lib.hid hatX
  have hatY := Lib.hid hatY
  have hokX := Lib.hid hokX
  have hokY := Lib.hid hokY
  go_enter Tryz.func108, Tryz.ntmps108
  go_upto_region 1 with fail
  obtain ⟨W0, hW0, hB0, hX0, hY0⟩ := box2N w X Y 25
  rw [← hW0]
  have BX := Lib.hid hX0
  have BY := Lib.hid hY0
  have BW := Lib.hid hB0
  replace hatX := Lib.hid (hatX.out.below hB0)
  replace hatY := Lib.hid (hatY.out.below hB0)
  replace CB := Lib.hid ((hB0.cell (p := ⟨cb, 0, none⟩) hcz).trans CB.out)
  replace hcz : cb < W0.heap.size := Nat.lt_of_lt_of_le hcz hB0.size
  clear hW0 hB0 hX0 hY0
  refine region_by_facts (fun W_ => Below W0.heap.size W0 W_) [fun u _ => u = .agg #[.int .u8 X.k, .string X.s, .int .i64 X.n, .slice X.p X.kids.len X.c], fun u _ => u = .agg #[.int .u8 Y.k, .string Y.s, .int .i64 Y.n, .slice Y.p Y.kids.len Y.c], fun u _ => u = .bool (sameB X Y), fun u _ => u = .bool wd, fun u _ => u = .bool (sameB X Y == wd), fun u _ => u = .bool (sameB X Y == wd), fun u _ => u = .int .i64 0]
    ⟨.eq _, .eq _, .eq _, .eq _, .eq _, .eq _, .eq _, trivial⟩ (by kernel_rfl) (by kernel_rfl) (by kernel_rfl) ?h0 ?steps ?done
  case h0 => exact (Below.refl _ _).drew
  case steps =>
    refine ⟨?_, ?_, ?_, ?_, ?_, ?_, ?_, trivial⟩
    · intro g_ W_ hI hd K hK
      simp only [frameOf, Act.put, List.setIfInBounds_toArray, List.set_cons_zero, List.set_cons_succ]
      have e_ := BX.out.below hI
      have c0 := e_.c0
      have c1 := e_.c1
      have c2 := e_.c2
      have c3 := e_.c3
      go_simp
      refine hK.out (.agg #[.int .u8 X.k, .string X.s, .int .i64 X.n, .slice X.p X.kids.len X.c]) _ W_ ?_ hI (Below.refl _ _) rfl
      simp only [frameOf, Act.put, List.setIfInBounds_toArray, List.set_cons_zero, List.set_cons_succ, Nat.zero_add, Nat.reduceAdd]
    · intro g_ W_ hI hd K hK
      simp only [frameOf, Act.put, List.setIfInBounds_toArray, List.set_cons_zero, List.set_cons_succ]
      have e_ := BY.out.below hI
      have c0 := e_.c0
      have c1 := e_.c1
      have c2 := e_.c2
      have c3 := e_.c3
      go_simp
      refine hK.out (.agg #[.int .u8 Y.k, .string Y.s, .int .i64 Y.n, .slice Y.p Y.kids.len Y.c]) _ W_ ?_ hI (Below.refl _ _) rfl
      simp only [frameOf, Act.put, List.setIfInBounds_toArray, List.set_cons_zero, List.set_cons_succ, Nat.zero_add, Nat.reduceAdd]
    · intro g_ W_ hI hd K hK
      simp only [frameOf, Act.put, List.setIfInBounds_toArray, List.set_cons_zero, List.set_cons_succ]
      have h0 : g_ 0 = .agg #[.int .u8 X.k, .string X.s, .int .i64 X.n, .slice X.p X.kids.len X.c] := hd 0 (by kernel_rfl)
      have h1 : g_ 1 = .agg #[.int .u8 Y.k, .string Y.s, .int .i64 Y.n, .slice Y.p Y.kids.len Y.c] := hd 1 (by kernel_rfl)
      rw [h0, h1]
      go_simp
      refine (tsame_any _ X.kids Y.kids (Nat.lt_succ_self _) hokX.out hokY.out hlx hly X.k Y.k X.s Y.s X.n Y.n W_ X.p Y.p X.c Y.c (hatX.out.below hI) (hatY.out.below hI)).mono ?_
      rintro e w' ⟨rfl, hB⟩
      rw [show (headAlike X.k Y.k X.s Y.s X.n Y.n && alike X.kids Y.kids) = sameB X Y from rfl]
      refine hK.out (.bool (sameB X Y)) _ _ ?_ (hI.trans (hB.mono hI.size)) hB rfl
      simp only [frameOf, Act.put, List.setIfInBounds_toArray, List.set_cons_zero, List.set_cons_succ, Nat.zero_add, Nat.reduceAdd, h0, h1]
    · intro g_ W_ hI hd K hK
      simp only [frameOf, Act.put, List.setIfInBounds_toArray, List.set_cons_zero, List.set_cons_succ]
      have cc := (hI.cell (p := ⟨cb, 0, none⟩) hcz).trans CB.out
      go_simp
      refine hK.out (.bool wd) _ W_ ?_ hI (Below.refl _ _) rfl
      simp only [frameOf, Act.put, List.setIfInBounds_toArray, List.set_cons_zero, List.set_cons_succ, Nat.zero_add, Nat.reduceAdd]
    · intro g_ W_ hI hd K hK
      simp only [frameOf, Act.put, List.setIfInBounds_toArray, List.set_cons_zero, List.set_cons_succ]
      have h2 : g_ 2 = .bool (sameB X Y) := hd 2 (by kernel_rfl)
      have h3 : g_ 3 = .bool wd := hd 3 (by kernel_rfl)
      rw [h2, h3]
      go_simp
      refine hK.out (.bool (sameB X Y == wd)) _ W_ ?_ hI (Below.refl _ _) rfl
      simp only [frameOf, Act.put, List.setIfInBounds_toArray, List.set_cons_zero, List.set_cons_succ, Nat.zero_add, Nat.reduceAdd, h2, h3]
    · intro g_ W_ hI hd K hK
      simp only [frameOf, Act.put, List.setIfInBounds_toArray, List.set_cons_zero, List.set_cons_succ]
      have h4 : g_ 4 = .bool (sameB X Y == wd) := hd 4 (by kernel_rfl)
      rw [h4]
      go_simp
      refine hK.out (.bool (sameB X Y == wd)) _ W_ ?_ hI (Below.refl _ _) rfl
      simp only [frameOf, Act.put, List.setIfInBounds_toArray, List.set_cons_zero, List.set_cons_succ, Nat.zero_add, Nat.reduceAdd, h4]
    · intro g_ W_ hI hd K hK
      simp only [frameOf, Act.put, List.setIfInBounds_toArray, List.set_cons_zero, List.set_cons_succ]
      go_simp
      refine hK.out (.int .i64 0) _ W_ ?_ hI (Below.refl _ _) rfl
      simp only [frameOf, Act.put, List.setIfInBounds_toArray, List.set_cons_zero, List.set_cons_succ, Nat.zero_add, Nat.reduceAdd]
  case done =>
    intro f_ W_ hI hd
    have h5 : f_ 5 = .bool (sameB X Y == wd) := hd 5 (by decide)
    have h6 : f_ 6 = .int .i64 0 := hd 6 (by decide)
    simp only [frameOf, Act.put, List.setIfInBounds_toArray, List.set_cons_zero, List.set_cons_succ, Nat.zero_add, Nat.reduceAdd, h5, h6]
    have BB := Lib.hid (BW.out.trans (hI.mono BW.out.size))
    clear hd h5 h6 hI
    go_wp2
    go_ret2
    exact ⟨rfl, BB.out⟩

def ordFn : Nat → Nat
  | 0 => 79 | 1 => 80 | 2 => 81 | _ => 82
set_option maxRecDepth 100000 in
set_option maxHeartbeats 4000000 in
theorem ordered1_any (w : World) (X Y : Nd) (hokX : X.kids.ok) (hokY : Y.kids.ok) (hlx : X.kids.size ≤ 5000) (hly : Y.kids.size ≤ 5000) (hatX : Ts.At w X.p X.kids) (hatY : Ts.At w Y.p Y.kids) (hX : X.ok) (hY : Y.ok) (cb i : Nat) (hi : i < 4) (hcb : w.cell? ⟨cb, 0, none⟩ = some (.func (.func (ordFn i)) #[] #[])) :
    Calls Tryz.prog 110 #[.agg #[.int .u8 X.k, .string X.s, .int .i64 X.n, .slice X.p X.kids.len X.c], .agg #[.int .u8 Y.k, .string Y.s, .int .i64 Y.n, .slice Y.p Y.kids.len Y.c], .pointer (some ⟨cb, 0, none⟩)] w fun e w' => e = .returned (.tuple #[.bool (ordR i (ordN X Y)).1, .int .i64 (ordR i (ordN X Y)).2]) ∧ Below w.heap.size w w' := by
  have hcz := World.block_lt_of_cell? _ _ hcb
  have CB := Lib.hid hcb
  clear hcb
  simp only at hcz
  have HX := Lib.hid hX
  have HY := Lib.hid hY
  clear hX hY
  have hcase : i = 0 ∨ i = 1 ∨ i = 2 ∨ i = 3 := by omega
  obtain ⟨x, hx⟩ : ∃ x, x = ordN X Y := ⟨_, rfl⟩
  have XE := Lib.hid hx
  rw [← hx]
  clear hx
  have hatX := Lib.hid hatX
  have hatY := Lib.hid hatY
  have hokX := Lib.hid hokX
  have hokY := Lib.hid hokY
  go_enter Tryz.func110, Tryz.ntmps110
  go_upto_region 1 with fail
  obtain ⟨W0, hW0, hB0, hX0, hY0⟩ := box2N w X Y 25
  rw [← hW0]
  have BX := Lib.hid hX0
  have BY := Lib.hid hY0
  have BW := Lib.hid hB0
  replace hatX := Lib.hid (hatX.out.below hB0)
  replace hatY := Lib.hid (hatY.out.below hB0)
  replace CB := Lib.hid ((hB0.cell (p := ⟨cb, 0, none⟩) hcz).trans CB.out)
  replace hcz : cb < W0.heap.size := Nat.lt_of_lt_of_le hcz hB0.size
  clear hW0 hB0 hX0 hY0
  have c0 := BX.out.c0
  have c1 := BX.out.c1
  have c2 := BX.out.c2
  have c3 := BX.out.c3
  have d0 := BY.out.c0
  have d1 := BY.out.c1
  have d2 := BY.out.c2
  have d3 := BY.out.c3
  go_wp2_with fail
  refine (tord_any _ X.kids Y.kids (Nat.lt_succ_self _) (by omega) X.k Y.k X.s Y.s X.n Y.n W0 X.p Y.p X.c Y.c HX.out HY.out hatX.out hatY.out).mono ?_
  rintro e w' ⟨rfl, hI⟩
  rw [show ordH X.k Y.k X.s Y.s X.n Y.n X.kids Y.kids (ordL X.kids Y.kids) = x from XE.out.symm]
  replace BW := Lib.hid (BW.out.trans (hI.mono BW.out.size))
  have cc := (hI.cell (p := ⟨cb, 0, none⟩) hcz).trans CB.out
  have BI := Lib.hid hI
  clear hI c0 c1 c2 c3 d0 d1 d2 d3
  obtain ⟨d, v⟩ := x
  cases v with
  | false =>
    clear cc
    go_wp2
    go_ret2
    exact ⟨rfl, BW.out⟩
  | true =>
    rcases hcase with rfl | rfl | rfl | rfl
    all_goals
      simp only [ordFn] at cc
      go_wp2
      go_ret2
      exact ⟨rfl, BW.out⟩

set_option maxRecDepth 100000 in
set_option maxHeartbeats 4000000 in
theorem applied_same (S : Nat) (σ : Sb) (n : Nat) (w : World) (hS : SubAt S σ n w) (a b : Nd) (pb po L c : Nat) (ha : ArgEl pb po a w) (hb : ArgEl pb (po + 4) b w) (hL : 1 < L) (cb cx : Nat) (hcb : w.cell? ⟨cb, 0, none⟩ = some (.func (.func 108) #[] #[.pointer (some ⟨cx, 0, none⟩)]))
    (f : Nd → Nd → Bool × Int) (hf : ∀ x y x' y' : Nd, x.twin x' → y.twin y' → f x y = f x' y')
    (hcall : ∀ (X Y : Nd) (W : World), Below w.heap.size w W → X.ok → Y.ok → X.kids.size ≤ 5000 → Y.kids.size ≤ 5000 → Ts.At W X.p X.kids → Ts.At W Y.p Y.kids → Calls Tryz.prog 108 #[.agg #[.int .u8 X.k, .string X.s, .int .i64 X.n, .slice X.p X.kids.len X.c], .agg #[.int .u8 Y.k, .string Y.s, .int .i64 Y.n, .slice Y.p Y.kids.len Y.c], .pointer (some ⟨cx, 0, none⟩)] W fun e w' => e = .returned (.tuple #[.bool (f X Y).1, .int .i64 (f X Y).2]) ∧ Below W.heap.size W w') :
    Calls Tryz.prog 122 #[.pointer (some ⟨S, 0, none⟩), .slice (some ⟨pb, po, none⟩) L c, .pointer (some ⟨cb, 0, none⟩)] w fun e w' => e = .returned (.tuple #[.bool (apP σ a b f).1, .int .i64 (apP σ a b f).2]) ∧ Below w.heap.size w w' := by
  have SB := Lib.hid hS
  have Ea := Lib.hid ha
  have Eb := Lib.hid hb
  have hL0 : (0 : Nat) < L := by omega
  have hL1 : (1 : Int) < (L : Int) := by omega
  have hcz := World.block_lt_of_cell? _ _ hcb
  simp only at hcz
  have CB := Lib.hid hcb
  have HF := Lib.hid hf
  have HC := Lib.hid hcall
  clear hS ha hb hcb hf hcall
  have e0 := Ea.out.el.c0
  have e1 := Ea.out.el.c1
  have e2 := Ea.out.el.c2
  have e3 := Ea.out.el.c3
  go_enter Tryz.func122, Tryz.ntmps122
  go_wp2_with fail
  refine (apply_any S σ n w SB.out a Ea.out.ok Ea.out.el.tat Ea.out.sz).mono ?_
  rintro e w1 ⟨hA, hI⟩
  obtain ⟨X, GX, rfl, hform⟩ := Applied.formG hA
  have HX := Lib.hid hform
  have BW := Lib.hid hI
  clear hA hform hI e0 e1 e2 e3
  go_upto_region 2 with fail
  obtain ⟨W1, hW1⟩ : ∃ W, W = w1.alloc (.cells #[.int .u8 X.k, .string X.s, .int .i64 X.n, .slice X.p X.kids.len X.c] 25) := ⟨_, rfl⟩
  have hI : Below w1.heap.size w1 W1 := by rw [hW1]; exact (Below.refl _ _).alloc (Nat.le_refl _) _
  obtain ⟨BX, hBX⟩ : ∃ b, b = w1.heap.size := ⟨_, rfl⟩
  have XB := Lib.hid (by rw [hBX, hW1]; exact BoxIs.new w1 X 25 : BoxIs BX X W1)
  have ZW := Lib.hid hW1
  have HB := Lib.hid hBX
  clear hW1 hBX
  replace HX := Lib.hid (HX.out.below hI)
  replace BW := Lib.hid (BW.out.trans (hI.mono BW.out.size))
  clear hI
  rw [← ZW.out, ← HB.out]
  rcases HX.out with ⟨hv, -, hF⟩ | ⟨hv, hF, hx3, hx4⟩
  · subst hF
    have AE : Hid (apP σ a b f = (false, 31)) := Lib.hid (by
      have : apE σ a = 31 := by unfold apE; rw [if_pos hv]
      unfold apP
      rw [this]
      rfl)
    clear hv ZW HB
    go_wp2
    go_ret2
    rw [AE.out]
    exact ⟨rfl, BW.out⟩
  subst hF
  have XP := Lib.hid hx3
  have XA := Lib.hid hx4
  have XK := Lib.hid (hx3.nd_ok (SB.out.wk_ok Ea.out.ok Ea.out.el.tat Ea.out.sz))
  have hxs : X.kids.size ≤ 5000 := by have := hx3.sz; omega
  have EA : Hid (apE σ a = 0) := Lib.hid (by unfold apE; rw [if_neg (by omega)])
  replace SB := Lib.hid (SB.out.below BW.out)
  replace Eb := Lib.hid (Eb.out.below BW.out)
  clear hx3 hx4 HX ZW HB hv
  have e0 := Eb.out.el.c0
  have e1 := Eb.out.el.c1
  have e2 := Eb.out.el.c2
  have e3 := Eb.out.el.c3
  go_wp2_with fail
  refine (apply_any S σ n W1 SB.out b Eb.out.ok Eb.out.el.tat Eb.out.sz).mono ?_
  rintro e w2 ⟨hA, hI⟩
  obtain ⟨Y, GY, rfl, hform⟩ := Applied.formG hA
  have HY := Lib.hid hform
  replace XB := Lib.hid (XB.out.below hI)
  replace XA := Lib.hid (XA.out.below hI)
  replace BW := Lib.hid (BW.out.trans (hI.mono BW.out.size))
  clear hA hform hI e0 e1 e2 e3
  go_upto_region 5 with fail
  obtain ⟨W2, hW2⟩ : ∃ W, W = w2.alloc (.cells #[.int .u8 Y.k, .string Y.s, .int .i64 Y.n, .slice Y.p Y.kids.len Y.c] 25) := ⟨_, rfl⟩
  have hI : Below w2.heap.size w2 W2 := by rw [hW2]; exact (Below.refl _ _).alloc (Nat.le_refl _) _
  obtain ⟨BY, hBY⟩ : ∃ b, b = w2.heap.size := ⟨_, rfl⟩
  have YB := Lib.hid (by rw [hBY, hW2]; exact BoxIs.new w2 Y 25 : BoxIs BY Y W2)
  have ZW := Lib.hid hW2
  have HB := Lib.hid hBY
  clear hW2 hBY
  replace HY := Lib.hid (HY.out.below hI)
  replace XB := Lib.hid (XB.out.below hI)
  replace XA := Lib.hid (XA.out.below hI)
  replace BW := Lib.hid (BW.out.trans (hI.mono BW.out.size))
  clear hI
  rw [← ZW.out, ← HB.out]
  rcases HY.out with ⟨hv, -, hF⟩ | ⟨hv, hF, hx3, hx4⟩
  · subst hF
    have AE : Hid (apP σ a b f = (false, 31)) := Lib.hid (by
      have : apE σ b = 31 := by unfold apE; rw [if_pos hv]
      unfold apP
      rw [EA.out, this]
      rfl)
    clear hv ZW HB
    go_wp2
    go_ret2
    rw [AE.out]
    exact ⟨rfl, BW.out⟩
  subst hF
  have YK := Lib.hid (hx3.nd_ok (SB.out.wk_ok Eb.out.ok Eb.out.el.tat Eb.out.sz))
  have YA := Lib.hid hx4
  have hys : Y.kids.size ≤ 5000 := by have := hx3.sz; omega
  have AE : Hid (apP σ a b f = f X Y) := Lib.hid (by
    have : apE σ b = 0 := by unfold apE; rw [if_neg (by omega)]
    unfold apP
    rw [EA.out, this, if_pos rfl, if_pos rfl]
    exact (HF.out _ _ _ _ (apX_tw XP.out) (apX_tw hx3)).symm)
  have hc := HC.out X Y W2 BW.out XK.out YK.out hxs hys XA.out YA.out
  have cc := (BW.out.cell (p := ⟨cb, 0, none⟩) hcz).trans CB.out
  obtain ⟨r, hr⟩ : ∃ r, r = f X Y := ⟨_, rfl⟩
  rw [← hr] at hc AE
  have HCC := Lib.hid hc
  clear hx3 hx4 HY ZW HB hv hc hr
  have c0 := XB.out.c0
  have c1 := XB.out.c1
  have c2 := XB.out.c2
  have c3 := XB.out.c3
  have d0 := YB.out.c0
  have d1 := YB.out.c1
  have d2 := YB.out.c2
  have d3 := YB.out.c3
  go_wp2_with fail
  refine HCC.out.mono ?_
  rintro e w3 ⟨rfl, hI⟩
  replace BW := Lib.hid (BW.out.trans (hI.mono BW.out.size))
  clear hI cc c0 c1 c2 c3 d0 d1 d2 d3
  go_wp2
  go_ret2
  rw [AE.out]
  exact ⟨rfl, BW.out⟩

set_option maxRecDepth 100000 in
set_option maxHeartbeats 4000000 in
theorem applied_ordered (S : Nat) (σ : Sb) (n : Nat) (w : World) (hS : SubAt S σ n w) (a b : Nd) (pb po L c : Nat) (ha : ArgEl pb po a w) (hb : ArgEl pb (po + 4) b w) (hL : 1 < L) (cb cx : Nat) (hcb : w.cell? ⟨cb, 0, none⟩ = some (.func (.func 110) #[] #[.pointer (some ⟨cx, 0, none⟩)]))
    (f : Nd → Nd → Bool × Int) (hf : ∀ x y x' y' : Nd, x.twin x' → y.twin y' → f x y = f x' y')
    (hcall : ∀ (X Y : Nd) (W : World), Below w.heap.size w W → X.ok → Y.ok → X.kids.size ≤ 5000 → Y.kids.size ≤ 5000 → Ts.At W X.p X.kids → Ts.At W Y.p Y.kids → Calls Tryz.prog 110 #[.agg #[.int .u8 X.k, .string X.s, .int .i64 X.n, .slice X.p X.kids.len X.c], .agg #[.int .u8 Y.k, .string Y.s, .int .i64 Y.n, .slice Y.p Y.kids.len Y.c], .pointer (some ⟨cx, 0, none⟩)] W fun e w' => e = .returned (.tuple #[.bool (f X Y).1, .int .i64 (f X Y).2]) ∧ Below W.heap.size W w') :
    Calls Tryz.prog 122 #[.pointer (some ⟨S, 0, none⟩), .slice (some ⟨pb, po, none⟩) L c, .pointer (some ⟨cb, 0, none⟩)] w fun e w' => e = .returned (.tuple #[.bool (apP σ a b f).1, .int .i64 (apP σ a b f).2]) ∧ Below w.heap.size w w' := by
  have SB := Lib.hid hS
  have Ea := Lib.hid ha
  have Eb := Lib.hid hb
  have hL0 : (0 : Nat) < L := by omega
  have hL1 : (1 : Int) < (L : Int) := by omega
  have hcz := World.block_lt_of_cell? _ _ hcb
  simp only at hcz
  have CB := Lib.hid hcb
  have HF := Lib.hid hf
  have HC := Lib.hid hcall
  clear hS ha hb hcb hf hcall
  have e0 := Ea.out.el.c0
  have e1 := Ea.out.el.c1
  have e2 := Ea.out.el.c2
  have e3 := Ea.out.el.c3
  go_enter Tryz.func122, Tryz.ntmps122
  go_wp2_with fail
  refine (apply_any S σ n w SB.out a Ea.out.ok Ea.out.el.tat Ea.out.sz).mono ?_
  rintro e w1 ⟨hA, hI⟩
  obtain ⟨X, GX, rfl, hform⟩ := Applied.formG hA
  have HX := Lib.hid hform
  have BW := Lib.hid hI
  clear hA hform hI e0 e1 e2 e3
  go_upto_region 2 with fail
  obtain ⟨W1, hW1⟩ : ∃ W, W = w1.alloc (.cells #[.int .u8 X.k, .string X.s, .int .i64 X.n, .slice X.p X.kids.len X.c] 25) := ⟨_, rfl⟩
  have hI : Below w1.heap.size w1 W1 := by rw [hW1]; exact (Below.refl _ _).alloc (Nat.le_refl _) _
  obtain ⟨BX, hBX⟩ : ∃ b, b = w1.heap.size := ⟨_, rfl⟩
  have XB := Lib.hid (by rw [hBX, hW1]; exact BoxIs.new w1 X 25 : BoxIs BX X W1)
  have ZW := Lib.hid hW1
  have HB := Lib.hid hBX
  clear hW1 hBX
  replace HX := Lib.hid (HX.out.below hI)
  replace BW := Lib.hid (BW.out.trans (hI.mono BW.out.size))
  clear hI
  rw [← ZW.out, ← HB.out]
  rcases HX.out with ⟨hv, -, hF⟩ | ⟨hv, hF, hx3, hx4⟩
  · subst hF
    have AE : Hid (apP σ a b f = (false, 31)) := Lib.hid (by
      have : apE σ a = 31 := by unfold apE; rw [if_pos hv]
      unfold apP
      rw [this]
      rfl)
    clear hv ZW HB
    go_wp2
    go_ret2
    rw [AE.out]
    exact ⟨rfl, BW.out⟩
  subst hF
  have XP := Lib.hid hx3
  have XA := Lib.hid hx4
  have XK := Lib.hid (hx3.nd_ok (SB.out.wk_ok Ea.out.ok Ea.out.el.tat Ea.out.sz))
  have hxs : X.kids.size ≤ 5000 := by have := hx3.sz; omega
  have EA : Hid (apE σ a = 0) := Lib.hid (by unfold apE; rw [if_neg (by omega)])
  replace SB := Lib.hid (SB.out.below BW.out)
  replace Eb := Lib.hid (Eb.out.below BW.out)
  clear hx3 hx4 HX ZW HB hv
  have e0 := Eb.out.el.c0
  have e1 := Eb.out.el.c1
  have e2 := Eb.out.el.c2
  have e3 := Eb.out.el.c3
  go_wp2_with fail
  refine (apply_any S σ n W1 SB.out b Eb.out.ok Eb.out.el.tat Eb.out.sz).mono ?_
  rintro e w2 ⟨hA, hI⟩
  obtain ⟨Y, GY, rfl, hform⟩ := Applied.formG hA
  have HY := Lib.hid hform
  replace XB := Lib.hid (XB.out.below hI)
  replace XA := Lib.hid (XA.out.below hI)
  replace BW := Lib.hid (BW.out.trans (hI.mono BW.out.size))
  clear hA hform hI e0 e1 e2 e3
  go_upto_region 5 with fail
  obtain ⟨W2, hW2⟩ : ∃ W, W = w2.alloc (.cells #[.int .u8 Y.k, .string Y.s, .int .i64 Y.n, .slice Y.p Y.kids.len Y.c] 25) := ⟨_, rfl⟩
  have hI : Below w2.heap.size w2 W2 := by rw [hW2]; exact (Below.refl _ _).alloc (Nat.le_refl _) _
  obtain ⟨BY, hBY⟩ : ∃ b, b = w2.heap.size := ⟨_, rfl⟩
  have YB := Lib.hid (by rw [hBY, hW2]; exact BoxIs.new w2 Y 25 : BoxIs BY Y W2)
  have ZW := Lib.hid hW2
  have HB := Lib.hid hBY
  clear hW2 hBY
  replace HY := Lib.hid (HY.out.below hI)
  replace XB := Lib.hid (XB.out.below hI)
  replace XA := Lib.hid (XA.out.below hI)
  replace BW := Lib.hid (BW.out.trans (hI.mono BW.out.size))
  clear hI
  rw [← ZW.out, ← HB.out]
  rcases HY.out with ⟨hv, -, hF⟩ | ⟨hv, hF, hx3, hx4⟩
  · subst hF
    have AE : Hid (apP σ a b f = (false, 31)) := Lib.hid (by
      have : apE σ b = 31 := by unfold apE; rw [if_pos hv]
      unfold apP
      rw [EA.out, this]
      rfl)
    clear hv ZW HB
    go_wp2
    go_ret2
    rw [AE.out]
    exact ⟨rfl, BW.out⟩
  subst hF
  have YK := Lib.hid (hx3.nd_ok (SB.out.wk_ok Eb.out.ok Eb.out.el.tat Eb.out.sz))
  have YA := Lib.hid hx4
  have hys : Y.kids.size ≤ 5000 := by have := hx3.sz; omega
  have AE : Hid (apP σ a b f = f X Y) := Lib.hid (by
    have : apE σ b = 0 := by unfold apE; rw [if_neg (by omega)]
    unfold apP
    rw [EA.out, this, if_pos rfl, if_pos rfl]
    exact (HF.out _ _ _ _ (apX_tw XP.out) (apX_tw hx3)).symm)
  have hc := HC.out X Y W2 BW.out XK.out YK.out hxs hys XA.out YA.out
  have cc := (BW.out.cell (p := ⟨cb, 0, none⟩) hcz).trans CB.out
  obtain ⟨r, hr⟩ : ∃ r, r = f X Y := ⟨_, rfl⟩
  rw [← hr] at hc AE
  have HCC := Lib.hid hc
  clear hx3 hx4 HY ZW HB hv hc hr
  have c0 := XB.out.c0
  have c1 := XB.out.c1
  have c2 := XB.out.c2
  have c3 := XB.out.c3
  have d0 := YB.out.c0
  have d1 := YB.out.c1
  have d2 := YB.out.c2
  have d3 := YB.out.c3
  go_wp2_with fail
  refine HCC.out.mono ?_
  rintro e w3 ⟨rfl, hI⟩
  replace BW := Lib.hid (BW.out.trans (hI.mono BW.out.size))
  clear hI cc c0 c1 c2 c3 d0 d1 d2 d3
  go_wp2
  go_ret2
  rw [AE.out]
  exact ⟨rfl, BW.out⟩

def cmpFn : Nat → Nat
  | 0 => 85
  | 1 => 86
  | 2 => 87
  | 3 => 88
  | 4 => 89
  | _ => 90
set_option maxRecDepth 100000 in
set_option maxHeartbeats 4000000 in
theorem compared1_any (S : Nat) (σ : Sb) (n : Nat) (w : World) (hS : SubAt S σ n w) (a b : Nd) (pb po L c : Nat) (ha : ArgEl pb po a w) (hb : ArgEl pb (po + 4) b w) (hL : 1 < L) (cb i : Nat) (hi : i < 6) (hcb : w.cell? ⟨cb, 0, none⟩ = some (.func (.func (cmpFn i)) #[] #[])) :
    Calls Tryz.prog 112 #[.pointer (some ⟨S, 0, none⟩), .slice (some ⟨pb, po, none⟩) L c, .pointer (some ⟨cb, 0, none⟩)] w fun e w' => e = .returned (.tuple #[.bool (rkP σ a b (cmpI i)).1, .int .i64 (rkP σ a b (cmpI i)).2]) ∧ Below w.heap.size w w' := by
  have SB := Lib.hid hS
  have Ea := Lib.hid ha
  have Eb := Lib.hid hb
  have hL0 : (0 : Nat) < L := by omega
  have hL1 : (1 : Int) < (L : Int) := by omega
  have hcz := World.block_lt_of_cell? _ _ hcb
  simp only at hcz
  have CB := Lib.hid hcb
  clear hS ha hb hcb
  obtain ⟨R, hR⟩ : ∃ R, R = (rk σ 4096 4096 a).1 := ⟨_, rfl⟩
  obtain ⟨R', hR'⟩ : ∃ R, R = (rk σ 4096 4096 b).1 := ⟨_, rfl⟩
  have RE := Lib.hid hR
  have RE' := Lib.hid hR'
  have PE : Hid (rkP σ a b (cmpI i) = if R.2 = 0 then (if R'.2 = 0 then (cmpI i R.1 R'.1, 0) else (false, R'.2)) else (false, R.2)) := Lib.hid (by unfold rkP; rw [← hR, ← hR'])
  clear hR hR'
  have e0 := Ea.out.el.c0
  have e1 := Ea.out.el.c1
  have e2 := Ea.out.el.c2
  have e3 := Ea.out.el.c3
  go_enter Tryz.func112, Tryz.ntmps112
  go_wp2_with fail
  refine (eval_gen S σ n w SB.out a Ea.out.ok Ea.out.el.tat Ea.out.sz).mono ?_
  rintro e w1 ⟨rfl, hI⟩
  rw [← RE.out]
  have BW := Lib.hid hI
  replace SB := Lib.hid (SB.out.below hI)
  replace Eb := Lib.hid (Eb.out.below hI)
  clear hI e0 e1 e2 e3
  by_cases h0 : R.2 = 0
  · rw [show ansOf R = .tuple #[.int .i64 R.1, .int .i64 0] by unfold ansOf; rw [if_pos h0, h0]]
    have H0 := Lib.hid h0
    clear h0
    have e0 := Eb.out.el.c0
    have e1 := Eb.out.el.c1
    have e2 := Eb.out.el.c2
    have e3 := Eb.out.el.c3
    go_wp2_with fail
    refine (eval_gen S σ n w1 SB.out b Eb.out.ok Eb.out.el.tat Eb.out.sz).mono ?_
    rintro e w2 ⟨rfl, hI⟩
    rw [← RE'.out]
    replace BW := Lib.hid (BW.out.trans (hI.mono BW.out.size))
    clear hI e0 e1 e2 e3
    by_cases h0' : R'.2 = 0
    · rw [show ansOf R' = .tuple #[.int .i64 R'.1, .int .i64 0] by unfold ansOf; rw [if_pos h0', h0']]
      have H0' := Lib.hid h0'
      clear h0'
      have cc := (BW.out.cell (p := ⟨cb, 0, none⟩) hcz).trans CB.out
      have hcase : i = 0 ∨ i = 1 ∨ i = 2 ∨ i = 3 ∨ i = 4 ∨ i = 5 := by omega
      rcases hcase with rfl | rfl | rfl | rfl | rfl | rfl
      all_goals
        simp only [cmpFn] at cc
        go_wp2
        go_ret2
        rw [PE.out, if_pos H0.out, if_pos H0'.out]
        exact ⟨rfl, BW.out⟩
    · rw [show ansOf R' = .tuple #[.int .i64 0, .int .i64 R'.2] by unfold ansOf; rw [if_neg h0']]
      have hne : (R'.2 != 0) = true := by simpa using h0'
      have H0' := Lib.hid h0'
      clear h0'
      go_wp2
      go_ret2
      rw [PE.out, if_pos H0.out, if_neg H0'.out]
      exact ⟨rfl, BW.out⟩
  · rw [show ansOf R = .tuple #[.int .i64 0, .int .i64 R.2] by unfold ansOf; rw [if_neg h0]]
    have hne : (R.2 != 0) = true := by simpa using h0
    have H0 := Lib.hid h0
    clear h0
    go_wp2
    go_ret2
    rw [PE.out, if_neg H0.out]
    exact ⟨rfl, BW.out⟩

end Go.Proofs.YtnmhnaanpjlniaaGreat
/-
  What the builtins' functions do: kinds; what succeeds without binding. (Written by gen_fh.py.)
-/
namespace Go.Proofs.YtnmhnaanpjlniaaGreat
open Go.RowKit

/-- a list of kinds, as memory has it -/
def KAt (g : Nat) (l : List Int) (w : World) : Prop := ∀ (i : Nat) (h : i < l.length), w.cell? ⟨g, i, none⟩ = some (.int .u8 l[i])
theorem KAt.below {g : Nat} {l : List Int} {w w' : World} (h : KAt g l w) (hB : Below w.heap.size w w') : KAt g l w' := fun i hi =>
  (hB.cell (p := ⟨g, i, none⟩) (World.block_lt_of_cell? _ _ (h i hi))).trans (h i hi)

def kindB (l : List Int) (k : Int) : Bool := l.contains k




set_option maxRecDepth 100000 in
set_option maxHeartbeats 4000000 in
theorem test_differ (S : Nat) (p : Option Addr) (L c : Nat) (w : World) (cb : Nat) (hcb : w.cell? ⟨cb, 0, none⟩ = some (.func (.func 76) #[] #[])) (r : Bool × Int)
    (hcall : Calls Tryz.prog 76 #[.pointer (some ⟨S, 0, none⟩), .slice p L c] w fun e w' => e = .returned (.tuple #[.bool r.1, .int .i64 r.2]) ∧ Below w.heap.size w w') :
    Calls Tryz.prog 105 #[.pointer (some ⟨S, 0, none⟩), .slice p L c, .pointer (some ⟨cb, 0, none⟩)] w fun e w' => (∃ u, e = .returned (.tuple #[u, .bool (doneR r).1, .int .i64 (doneR r).2])) ∧ Below w.heap.size w w' := by
  have HC := Lib.hid hcall
  clear hcall
  obtain ⟨b, g⟩ := r
  go_enter Tryz.func105, Tryz.ntmps105
  go_wp2_with fail
  refine HC.out.mono ?_
  rintro e w' ⟨rfl, hB⟩
  have BW := Lib.hid hB
  clear hB hcb HC
  by_cases hg : (g != 0) = true
  · have HD : Hid (doneR (b, g) = (false, g)) := Lib.hid (by unfold doneR; simp only [hg, Bool.true_or, if_true])
    go_wp2
    refine bodyPost_ret (v := .tuple #[.pointer none, .bool false, .int .i64 g]) (by simp [results, Tryz.results105, go_sem]) rfl ?_
    rw [HD.out]
    exact ⟨⟨_, rfl⟩, BW.out⟩
  rw [Bool.not_eq_true] at hg
  have hg0 : g = 0 := by simpa using hg
  cases b with
  | false =>
    have HD : Hid (doneR (false, g) = (false, g)) := Lib.hid (by unfold doneR; simp)
    clear hg0
    go_wp2
    refine bodyPost_ret (v := .tuple #[.pointer none, .bool false, .int .i64 g]) (by simp [results, Tryz.results105, go_sem]) rfl ?_
    rw [HD.out]
    exact ⟨⟨_, rfl⟩, BW.out⟩
  | true =>
    have HD : Hid (doneR (true, g) = (true, 0)) := Lib.hid (by unfold doneR; simp only [hg, Bool.false_or, Bool.not_true, Bool.false_eq_true, if_false])
    clear hg0
    go_wp2
    refine bodyPost_ret (v := .tuple #[.pointer (some ⟨S, 0, none⟩), .bool true, .int .i64 0]) (by simp [results, Tryz.results105, go_sem]) rfl ?_
    rw [HD.out]
    exact ⟨⟨_, rfl⟩, BW.out⟩

set_option maxRecDepth 100000 in
set_option maxHeartbeats 4000000 in
theorem test_applied (S : Nat) (p : Option Addr) (L c : Nat) (w : World) (cb : Nat) (cx : Nat) (hcb : w.cell? ⟨cb, 0, none⟩ = some (.func (.func 122) #[] #[.pointer (some ⟨cx, 0, none⟩)])) (r : Bool × Int)
    (hcall : Calls Tryz.prog 122 #[.pointer (some ⟨S, 0, none⟩), .slice p L c, .pointer (some ⟨cx, 0, none⟩)] w fun e w' => e = .returned (.tuple #[.bool r.1, .int .i64 r.2]) ∧ Below w.heap.size w w') :
    Calls Tryz.prog 105 #[.pointer (some ⟨S, 0, none⟩), .slice p L c, .pointer (some ⟨cb, 0, none⟩)] w fun e w' => (∃ u, e = .returned (.tuple #[u, .bool (doneR r).1, .int .i64 (doneR r).2])) ∧ Below w.heap.size w w' := by
  have HC := Lib.hid hcall
  clear hcall
  obtain ⟨b, g⟩ := r
  go_enter Tryz.func105, Tryz.ntmps105
  go_wp2_with fail
  refine HC.out.mono ?_
  rintro e w' ⟨rfl, hB⟩
  have BW := Lib.hid hB
  clear hB hcb HC
  by_cases hg : (g != 0) = true
  · have HD : Hid (doneR (b, g) = (false, g)) := Lib.hid (by unfold doneR; simp only [hg, Bool.true_or, if_true])
    go_wp2
    refine bodyPost_ret (v := .tuple #[.pointer none, .bool false, .int .i64 g]) (by simp [results, Tryz.results105, go_sem]) rfl ?_
    rw [HD.out]
    exact ⟨⟨_, rfl⟩, BW.out⟩
  rw [Bool.not_eq_true] at hg
  have hg0 : g = 0 := by simpa using hg
  cases b with
  | false =>
    have HD : Hid (doneR (false, g) = (false, g)) := Lib.hid (by unfold doneR; simp)
    clear hg0
    go_wp2
    refine bodyPost_ret (v := .tuple #[.pointer none, .bool false, .int .i64 g]) (by simp [results, Tryz.results105, go_sem]) rfl ?_
    rw [HD.out]
    exact ⟨⟨_, rfl⟩, BW.out⟩
  | true =>
    have HD : Hid (doneR (true, g) = (true, 0)) := Lib.hid (by unfold doneR; simp only [hg, Bool.false_or, Bool.not_true, Bool.false_eq_true, if_false])
    clear hg0
    go_wp2
    refine bodyPost_ret (v := .tuple #[.pointer (some ⟨S, 0, none⟩), .bool true, .int .i64 0]) (by simp [results, Tryz.results105, go_sem]) rfl ?_
    rw [HD.out]
    exact ⟨⟨_, rfl⟩, BW.out⟩

set_option maxRecDepth 100000 in
set_option maxHeartbeats 4000000 in
theorem test_compared (S : Nat) (p : Option Addr) (L c : Nat) (w : World) (cb : Nat) (cx : Nat) (hcb : w.cell? ⟨cb, 0, none⟩ = some (.func (.func 112) #[] #[.pointer (some ⟨cx, 0, none⟩)])) (r : Bool × Int)
    (hcall : Calls Tryz.prog 112 #[.pointer (some ⟨S, 0, none⟩), .slice p L c, .pointer (some ⟨cx, 0, none⟩)] w fun e w' => e = .returned (.tuple #[.bool r.1, .int .i64 r.2]) ∧ Below w.heap.size w w') :
    Calls Tryz.prog 105 #[.pointer (some ⟨S, 0, none⟩), .slice p L c, .pointer (some ⟨cb, 0, none⟩)] w fun e w' => (∃ u, e = .returned (.tuple #[u, .bool (doneR r).1, .int .i64 (doneR r).2])) ∧ Below w.heap.size w w' := by
  have HC := Lib.hid hcall
  clear hcall
  obtain ⟨b, g⟩ := r
  go_enter Tryz.func105, Tryz.ntmps105
  go_wp2_with fail
  refine HC.out.mono ?_
  rintro e w' ⟨rfl, hB⟩
  have BW := Lib.hid hB
  clear hB hcb HC
  by_cases hg : (g != 0) = true
  · have HD : Hid (doneR (b, g) = (false, g)) := Lib.hid (by unfold doneR; simp only [hg, Bool.true_or, if_true])
    go_wp2
    refine bodyPost_ret (v := .tuple #[.pointer none, .bool false, .int .i64 g]) (by simp [results, Tryz.results105, go_sem]) rfl ?_
    rw [HD.out]
    exact ⟨⟨_, rfl⟩, BW.out⟩
  rw [Bool.not_eq_true] at hg
  have hg0 : g = 0 := by simpa using hg
  cases b with
  | false =>
    have HD : Hid (doneR (false, g) = (false, g)) := Lib.hid (by unfold doneR; simp)
    clear hg0
    go_wp2
    refine bodyPost_ret (v := .tuple #[.pointer none, .bool false, .int .i64 g]) (by simp [results, Tryz.results105, go_sem]) rfl ?_
    rw [HD.out]
    exact ⟨⟨_, rfl⟩, BW.out⟩
  | true =>
    have HD : Hid (doneR (true, g) = (true, 0)) := Lib.hid (by unfold doneR; simp only [hg, Bool.false_or, Bool.not_true, Bool.false_eq_true, if_false])
    clear hg0
    go_wp2
    refine bodyPost_ret (v := .tuple #[.pointer (some ⟨S, 0, none⟩), .bool true, .int .i64 0]) (by simp [results, Tryz.results105, go_sem]) rfl ?_
    rw [HD.out]
    exact ⟨⟨_, rfl⟩, BW.out⟩


end Go.Proofs.YtnmhnaanpjlniaaGreat
