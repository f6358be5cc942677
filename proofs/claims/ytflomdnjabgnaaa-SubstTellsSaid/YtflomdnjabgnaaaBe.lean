import Derived.Test.YtflomdnjabgnaaaBa
import Derived.Test.YtflomdnjabgnaaaBc
import Derived.Test.YtflomdnjabgnaaaAn
/-
  Layer 3: plain facts for the law SubstTells.
-/
namespace Go.Proofs.Ytflomdnjabgnaaa
open Go.RowKit

theorem App.tw {σ ρ : Sb} (h : STw σ ρ) (hE : Ends σ) {l : List Nd} {us : Ts} (ha : App σ l us) : ∀ {l' : List Nd} {vs : Ts}, TwL l l' → App ρ l' vs → Ts.twin us vs := by
  induction ha with
  | nil => intro l' vs hl hv; cases hl; cases hv; trivial
  | cons _ _ ih1 ih2 =>
    intro l' vs hl hv
    cases hl with
    | cons ht hl =>
      cases hv with
      | cons g1 g2 =>
        have hw := h.wk hE ht
        exact ⟨hw.1, hw.2.1, hw.2.2.1, ih1 (elems_tw hw.2.2.2) g1, ih2 hl g2⟩

/-- how many nodes an applied term has, its own node left out -/
theorem cnt_of {σ : Sb} {t : Nd} (h : (vis σ 4097 [t]).length ≤ 4096) : ∃ n, n ≤ 4096 ∧ Cnt σ (elems (wk σ t).kids) n := by
  obtain ⟨a, b, h1, h2, h3⟩ := Cnt.inv (vis_cnt (σ := σ) 4097 [t] (by omega))
  exact ⟨a, by omega, h1⟩

/-- terms that are alike, told so -/
theorem headAlike_twin {x y : Nd} (h : x.twin y) : headAlike x.k y.k x.s y.s x.n y.n = true := by
  obtain ⟨h1, h2, h3, _⟩ := h
  rw [h1, h2, h3]
  simp [headAlike]

theorem alike_twin {u v : Ts} (h : Ts.twin u v) : alike u v = true := (twin_alike_both h (Ts.twin_refl v)).trans (alike_refl v)

/-- two applied terms, or walked ones, are the same: told so -/
theorem same_twins {x y : Nd} (h : x.twin y) (hox : x.kids.ok) (hoy : y.kids.ok) (hlx : x.kids.len ≤ 1000000) (w : World) (hax : Ts.At w x.p x.kids) (hay : Ts.At w y.p y.kids) :
    Calls Try.prog 21 #[.agg #[.int .u8 x.k, .string x.s, .int .i64 x.n, .slice x.p x.kids.len x.c], .agg #[.int .u8 y.k, .string y.s, .int .i64 y.n, .slice y.p y.kids.len y.c]] w fun e w' => e = .returned (.bool true) ∧ Below w.heap.size w w' := by
  have hly : y.kids.len ≤ 1000000 := by rw [← Ts.twin_len _ _ h.2.2.2]; exact hlx
  refine (same_of x.kids y.kids (fun w p p' c c' ha hb => all_any _ x.kids y.kids (Nat.lt_succ_self _) hox hoy (by omega) (by omega) w p p' c c' ha hb) x.k y.k x.s y.s x.n y.n x.p y.p x.c y.c w hax hay).mono ?_
  rintro e w' ⟨rfl, hB⟩
  rw [headAlike_twin h, alike_twin h.2.2.2]
  exact ⟨rfl, hB⟩

end Go.Proofs.Ytflomdnjabgnaaa
/-
  The law SubstTells, walked. (Written by gen_be.py.)
-/
namespace Go.Proofs.Ytflomdnjabgnaaa
open Go.RowKit

theorem CloneOf.below {x : Nd} {B : Nat} {v : Value} {w w' : World} (h : CloneOf x B v w) (hB : Below w.heap.size w w') : CloneOf x B v w' := by
  obtain ⟨us, q, d, h1, h2, h3⟩ := h
  exact ⟨us, q, d, h1, AtB_below h2 hB, h3⟩
theorem CloneOf.mono {x : Nd} {B B' : Nat} {v : Value} {w : World} (h : CloneOf x B v w) (hBB : B' ≤ B) : CloneOf x B' v w := by
  obtain ⟨us, q, d, h1, h2, h3⟩ := h
  exact ⟨us, q, d, h1, AtB_mono h2 hBB, h3⟩

set_option maxRecDepth 100000 in
set_option maxHeartbeats 16000000 in
theorem substTells_true (l : List (Int × Nd)) (t : Nd) (v : Int) (hl63 : l.length ≤ 9223372036854775807) (hbok : (bsTs l).ok) (hvr : ∀ e ∈ l, -9223372036854775808 ≤ e.1 ∧ e.1 ≤ 9223372036854775807) (w : World) (lp : Option Addr) (lc : Nat) (hat : BsAt w lp l) (hok : t.ok) (htat : Ts.At w t.p t.kids) :
    Calls Try.prog 4 #[.slice lp l.length lc, .agg #[.int .u8 t.k, .string t.s, .int .i64 t.n, .slice t.p t.kids.len t.c], .int .i64 v] w fun e w' => e = .returned (.bool true) ∧ Below w.heap.size w w' := by
  have BOK := Lib.hid hbok
  have VR := Lib.hid hvr
  have AT := Lib.hid hat
  have OK := Lib.hid hok
  have TAT := Lib.hid htat
  obtain ⟨g, hg⟩ : ∃ g, g = bGreat l t := ⟨_, rfl⟩
  have GG := Lib.hid hg
  clear hbok hvr hat hok htat hg
  go_enter Try.func4, Try.ntmps4
  go_wp2_with fail
  have hB0 : Below w.heap.size w (w.alloc (.cells #[.int .u8 t.k, .string t.s, .int .i64 t.n, .slice t.p t.kids.len t.c] 24)) := (Below.refl _ _).alloc (Nat.le_refl _) _
  have hX0 := BoxIs.new w t 24
  refine (bgreat_any l t hl63 BOK.out _ lp lc (AT.out.below hB0) OK.out (TAT.out.below hB0)).mono ?_
  rintro e w1 ⟨rfl, hB1⟩
  rw [← GG.out]
  have BW := Lib.hid (hB0.trans (hB1.mono hB0.size))
  have XB := Lib.hid (hX0.below hB1)
  clear hB0 hX0 hB1
  cases g with
  | true =>
    go_wp2_with fail
    refine (wakes3_any w1).mono ?_
    rintro e w2 ⟨rfl, hB⟩
    have B2 := Lib.hid (BW.out.trans (hB.mono BW.out.size))
    clear hB
    go_wp2
    go_ret
    exact ⟨rfl, B2.out⟩
  | false =>
    obtain ⟨hl40, hts, hbs⟩ := bGreat_size GG.out.symm
    go_wp2_with fail
    refine (make_any l hl40 BOK.out hbs VR.out w1 lp lc (AT.out.below BW.out)).mono ?_
    rintro e w2 ⟨had, σ, q, c, rfl, hba, hhl, hS, hST, hsm, hB⟩
    obtain ⟨S, hSe⟩ : ∃ S, S = w1.heap.size := ⟨_, rfl⟩
    rw [← hSe] at hS
    have SE := Lib.hid hSe
    have BA := Lib.hid hba
    have SS := Lib.hid hS
    have ST := Lib.hid hST
    have SM := Lib.hid hsm
    have hhl2 : had.length ≤ 1000000 := by omega
    replace XB := Lib.hid (XB.out.below hB)
    replace BW := Lib.hid (BW.out.trans (hB.mono BW.out.size))
    clear hba hS hST hsm hB
    rw [← hSe]
    clear hSe
    have EH := Lib.hid (ST.out.ends SS.out.ends)
    have SH := Lib.hid (small_of SM.out)
    have hN := XB.out.lt
    obtain ⟨Y, hY⟩ : ∃ Y, Y = wk (look had) t := ⟨_, rfl⟩
    have TWN : Hid ((wk σ t).twin Y) := Lib.hid (by rw [hY]; exact ST.out.wk SS.out.ends (Nd.twin_refl t))
    have YO : Hid (Y.ok ∧ Y.kids.size ≤ 1000 ∧ Ts.At w2 Y.p Y.kids) := Lib.hid (by rw [hY]; exact walked_lies EH.out SH.out BA.out OK.out hts (TAT.out.below BW.out))
    have YE := Lib.hid hY
    clear hY
    go_upto_region 4 with fail
    refine region_by_facts (fun W_ => Below w2.heap.size w2 W_) [fun u _ => u = .bool true, fun u _ => u = .bool false, fun u _ => u = .bool false, fun u _ => u = .pointer (some ⟨S, 0, none⟩), fun u _ => u = .agg #[.int .u8 t.k, .string t.s, .int .i64 t.n, .slice t.p t.kids.len t.c], fun u W => CloneOf (wk σ t) w2.heap.size u W, fun u _ => u = .slice q had.length c, fun u _ => u = .agg #[.int .u8 t.k, .string t.s, .int .i64 t.n, .slice t.p t.kids.len t.c], fun u _ => u = .agg #[.int .u8 Y.k, .string Y.s, .int .i64 Y.n, .slice Y.p Y.kids.len Y.c], fun u _ => u = .bool true, fun u _ => u = .bool false, fun u _ => u = .bool false]
      ⟨.eq _, .eq _, .eq _, .eq _, .eq _, (fun _ _ _ h hB => h.below hB), .eq _, .eq _, .eq _, .eq _, .eq _, .eq _, trivial⟩ (by kernel_rfl) (by kernel_rfl) (by kernel_rfl) ?h0 ?steps ?done
    case h0 => exact (Below.refl _ _).drew
    case steps =>
      refine ⟨?_, ?_, ?_, ?_, ?_, ?_, ?_, ?_, ?_, ?_, ?_, ?_, trivial⟩
      · intro g_ W_ hI hd K hK
        simp only [frameOf, Act.put, List.setIfInBounds_toArray, List.set_cons_zero, List.set_cons_succ]
        go_simp
        refine hK.out (.bool true) _ W_ ?_ hI (Below.refl _ _) rfl
        simp only [frameOf, Act.put, List.setIfInBounds_toArray, List.set_cons_zero, List.set_cons_succ, Nat.zero_add, Nat.reduceAdd]
      · intro g_ W_ hI hd K hK
        simp only [frameOf, Act.put, List.setIfInBounds_toArray, List.set_cons_zero, List.set_cons_succ]
        have h0 : g_ 0 = .bool true := hd 0 (by kernel_rfl)
        rw [h0]
        go_simp
        refine hK.out (.bool false) _ W_ ?_ hI (Below.refl _ _) rfl
        simp only [frameOf, Act.put, List.setIfInBounds_toArray, List.set_cons_zero, List.set_cons_succ, Nat.zero_add, Nat.reduceAdd, h0]
      · intro g_ W_ hI hd K hK
        simp only [frameOf, Act.put, List.setIfInBounds_toArray, List.set_cons_zero, List.set_cons_succ]
        have h1 : g_ 1 = .bool false := hd 1 (by kernel_rfl)
        rw [h1]
        go_simp
        refine hK.out (.bool false) _ W_ ?_ hI (Below.refl _ _) rfl
        simp only [frameOf, Act.put, List.setIfInBounds_toArray, List.set_cons_zero, List.set_cons_succ, Nat.zero_add, Nat.reduceAdd, h1]
      · intro g_ W_ hI hd K hK
        simp only [frameOf, Act.put, List.setIfInBounds_toArray, List.set_cons_zero, List.set_cons_succ]
        have h2 : g_ 2 = .bool false := hd 2 (by kernel_rfl)
        rw [h2]
        go_simp
        refine hK.out (.pointer (some ⟨S, 0, none⟩)) _ W_ ?_ hI (Below.refl _ _) rfl
        simp only [frameOf, Act.put, List.setIfInBounds_toArray, List.set_cons_zero, List.set_cons_succ, Nat.zero_add, Nat.reduceAdd, h2]
      · intro g_ W_ hI hd K hK
        simp only [frameOf, Act.put, List.setIfInBounds_toArray, List.set_cons_zero, List.set_cons_succ]
        have h2 : g_ 2 = .bool false := hd 2 (by kernel_rfl)
        rw [h2]
        have XW := XB.out.below hI
        have c0 := XW.c0
        have c1 := XW.c1
        have c2 := XW.c2
        have c3 := XW.c3
        go_simp
        refine hK.out (.agg #[.int .u8 t.k, .string t.s, .int .i64 t.n, .slice t.p t.kids.len t.c]) _ W_ ?_ hI (Below.refl _ _) rfl
        simp only [frameOf, Act.put, List.setIfInBounds_toArray, List.set_cons_zero, List.set_cons_succ, Nat.zero_add, Nat.reduceAdd, h2]
      · intro g_ W_ hI hd K hK
        simp only [frameOf, Act.put, List.setIfInBounds_toArray, List.set_cons_zero, List.set_cons_succ]
        have h2 : g_ 2 = .bool false := hd 2 (by kernel_rfl)
        have h3 : g_ 3 = .pointer (some ⟨S, 0, none⟩) := hd 3 (by kernel_rfl)
        have h4 : g_ 4 = .agg #[.int .u8 t.k, .string t.s, .int .i64 t.n, .slice t.p t.kids.len t.c] := hd 4 (by kernel_rfl)
        rw [h2, h3, h4]
        go_simp
        refine (walk_any S σ had.length W_ (SS.out.below hI) t OK.out ((TAT.out.below BW.out).below hI) hts).mono ?_
        rintro e w' ⟨v', rfl, hC, hB⟩
        refine hK.out v' _ w' ?_ (hI.trans (hB.mono hI.size)) hB (hC.mono hI.size)
        simp only [frameOf, Act.put, List.setIfInBounds_toArray, List.set_cons_zero, List.set_cons_succ, Nat.zero_add, Nat.reduceAdd, h2, h3, h4]
      · intro g_ W_ hI hd K hK
        simp only [frameOf, Act.put, List.setIfInBounds_toArray, List.set_cons_zero, List.set_cons_succ]
        have h2 : g_ 2 = .bool false := hd 2 (by kernel_rfl)
        rw [h2]
        go_simp
        refine hK.out (.slice q had.length c) _ W_ ?_ hI (Below.refl _ _) rfl
        simp only [frameOf, Act.put, List.setIfInBounds_toArray, List.set_cons_zero, List.set_cons_succ, Nat.zero_add, Nat.reduceAdd, h2]
      · intro g_ W_ hI hd K hK
        simp only [frameOf, Act.put, List.setIfInBounds_toArray, List.set_cons_zero, List.set_cons_succ]
        have h2 : g_ 2 = .bool false := hd 2 (by kernel_rfl)
        rw [h2]
        have XW := XB.out.below hI
        have c0 := XW.c0
        have c1 := XW.c1
        have c2 := XW.c2
        have c3 := XW.c3
        go_simp
        refine hK.out (.agg #[.int .u8 t.k, .string t.s, .int .i64 t.n, .slice t.p t.kids.len t.c]) _ W_ ?_ hI (Below.refl _ _) rfl
        simp only [frameOf, Act.put, List.setIfInBounds_toArray, List.set_cons_zero, List.set_cons_succ, Nat.zero_add, Nat.reduceAdd, h2]
      · intro g_ W_ hI hd K hK
        simp only [frameOf, Act.put, List.setIfInBounds_toArray, List.set_cons_zero, List.set_cons_succ]
        have h2 : g_ 2 = .bool false := hd 2 (by kernel_rfl)
        have h6 : g_ 6 = .slice q had.length c := hd 6 (by kernel_rfl)
        have h7 : g_ 7 = .agg #[.int .u8 t.k, .string t.s, .int .i64 t.n, .slice t.p t.kids.len t.c] := hd 7 (by kernel_rfl)
        rw [h2, h6, h7]
        go_simp
        refine (rwalk_any had hhl2 EH.out W_ q c (BA.out.below hI) t.k t.s t.n t.p t.kids t.c).mono ?_
        rintro e w' ⟨he, hB⟩
        have he2 : e = .returned (.agg #[.int .u8 Y.k, .string Y.s, .int .i64 Y.n, .slice Y.p Y.kids.len Y.c]) := by rw [he, YE.out]; rfl
        subst he2
        refine hK.out (.agg #[.int .u8 Y.k, .string Y.s, .int .i64 Y.n, .slice Y.p Y.kids.len Y.c]) _ w' ?_ (hI.trans (hB.mono hI.size)) hB rfl
        simp only [frameOf, Act.put, List.setIfInBounds_toArray, List.set_cons_zero, List.set_cons_succ, Nat.zero_add, Nat.reduceAdd, h2, h6, h7]
      · intro g_ W_ hI hd K hK
        simp only [frameOf, Act.put, List.setIfInBounds_toArray, List.set_cons_zero, List.set_cons_succ]
        have h2 : g_ 2 = .bool false := hd 2 (by kernel_rfl)
        obtain ⟨us, q5, d, h5, ha5, htw5, hok5, hcl5, hn5⟩ := hd 5 (by kernel_rfl)
        have h8 : g_ 8 = .agg #[.int .u8 Y.k, .string Y.s, .int .i64 Y.n, .slice Y.p Y.kids.len Y.c] := hd 8 (by kernel_rfl)
        rw [h2, h5, h8]
        have hul : us.len ≤ 1000000 := by have h1 := Ts.twin_len _ _ (twin_trans htw5 TWN.out.2.2.2); have h2 := Ts.len_size Y.kids; have h3 := YO.out.2.1; omega
        unfold tv at h5 ⊢
        go_simp
        refine (same_twins (x := ⟨(wk σ t).k, (wk σ t).s, (wk σ t).n, q5, d, us⟩) (y := Y) ⟨TWN.out.1, TWN.out.2.1, TWN.out.2.2.1, twin_trans htw5 TWN.out.2.2.2⟩ hok5 YO.out.1.2.2.2.2.2.1 hul W_ ha5.at (YO.out.2.2.below hI)).mono ?_
        rintro e w' ⟨rfl, hB⟩
        refine hK.out (.bool true) _ w' ?_ (hI.trans (hB.mono hI.size)) hB rfl
        simp only [frameOf, Act.put, List.setIfInBounds_toArray, List.set_cons_zero, List.set_cons_succ, Nat.zero_add, Nat.reduceAdd, h2, h5, h8]
      · intro g_ W_ hI hd K hK
        simp only [frameOf, Act.put, List.setIfInBounds_toArray, List.set_cons_zero, List.set_cons_succ]
        have h2 : g_ 2 = .bool false := hd 2 (by kernel_rfl)
        have h9 : g_ 9 = .bool true := hd 9 (by kernel_rfl)
        rw [h2, h9]
        go_simp
        refine hK.out (.bool false) _ W_ ?_ hI (Below.refl _ _) rfl
        simp only [frameOf, Act.put, List.setIfInBounds_toArray, List.set_cons_zero, List.set_cons_succ, Nat.zero_add, Nat.reduceAdd, h2, h9]
      · intro g_ W_ hI hd K hK
        simp only [frameOf, Act.put, List.setIfInBounds_toArray, List.set_cons_zero, List.set_cons_succ]
        have h2 : g_ 2 = .bool false := hd 2 (by kernel_rfl)
        have h10 : g_ 10 = .bool false := hd 10 (by kernel_rfl)
        rw [h2, h10]
        go_simp
        refine hK.out (.bool false) _ W_ ?_ hI (Below.refl _ _) rfl
        simp only [frameOf, Act.put, List.setIfInBounds_toArray, List.set_cons_zero, List.set_cons_succ, Nat.zero_add, Nat.reduceAdd, h2, h10]
    case done =>
      intro f_ W_ hI hd
      have h11 : f_ 11 = .bool false := hd 11 (by decide)
      simp only [frameOf, Act.put, List.setIfInBounds_toArray, List.set_cons_zero, List.set_cons_succ, Nat.zero_add, Nat.reduceAdd, h11]
      clear hd
      replace BA := Lib.hid (BA.out.below hI)
      replace SS := Lib.hid (SS.out.below hI)
      replace XB := Lib.hid (XB.out.below hI)
      replace BW := Lib.hid (BW.out.trans (hI.mono BW.out.size))
      clear hI YO TWN YE h11
      have c0 := XB.out.c0
      have c1 := XB.out.c1
      have c2 := XB.out.c2
      have c3 := XB.out.c3
      have hvis : vis σ 4097 [t] = vis σ 4097 [t] := rfl
      have TV := Lib.hid (ST.out.vis SS.out.ends 4097 (TwL.cons (Nd.twin_refl t) .nil))
      obtain ⟨ob, oe, hocc⟩ : ∃ ob oe, occ v (num 0 (vis σ 4097 [t])) = (ob, oe) := ⟨_, _, rfl⟩
      have OC := Lib.hid hocc
      have OC2 : Hid (occ v (num 0 (vis (look had) 4097 [t])) = (ob, oe)) := Lib.hid (by rw [← occ_tw v TV.out 0]; exact hocc)
      clear hvis hocc
      go_wp2_with fail
      refine (occurs_any S σ had.length W_ SS.out v t OK.out (TAT.out.below BW.out) hts).mono ?_
      rintro e w3 ⟨rfl, hB⟩
      rw [OC.out]
      replace BA := Lib.hid (BA.out.below hB)
      replace SS := Lib.hid (SS.out.below hB)
      replace XB := Lib.hid (XB.out.below hB)
      replace BW := Lib.hid (BW.out.trans (hB.mono BW.out.size))
      clear hB c0 c1 c2 c3
      have c0 := XB.out.c0
      have c1 := XB.out.c1
      have c2 := XB.out.c2
      have c3 := XB.out.c3
      go_wp2_with fail
      refine (roccurs_any had hhl2 EH.out SH.out w3 q c BA.out t OK.out hts (TAT.out.below BW.out) v).mono ?_
      rintro e w4 ⟨rfl, hB⟩
      rw [OC2.out]
      replace BA := Lib.hid (BA.out.below hB)
      replace SS := Lib.hid (SS.out.below hB)
      replace XB := Lib.hid (XB.out.below hB)
      replace BW := Lib.hid (BW.out.trans (hB.mono BW.out.size))
      clear hB c0 c1 c2 c3
      have c0 := XB.out.c0
      have c1 := XB.out.c1
      have c2 := XB.out.c2
      have c3 := XB.out.c3
      go_wp2_with fail
      refine (apply_any S σ had.length w4 SS.out t OK.out (TAT.out.below BW.out) hts).mono ?_
      rintro e w5 ⟨hA, hB⟩
      replace BA := Lib.hid (BA.out.below hB)
      replace SS := Lib.hid (SS.out.below hB)
      replace XB := Lib.hid (XB.out.below hB)
      replace BW := Lib.hid (BW.out.trans (hB.mono BW.out.size))
      clear hB c0 c1 c2 c3
      rcases hA with ⟨hfull, rfl⟩ | ⟨hle, us, q5, rfl, hua, happ, hokU, hnU⟩
      · have HF := Lib.hid (by rw [← TV.out.length]; exact hfull : (vis (look had) 4097 [t]).length = 4097)
        clear hfull
        unfold tv
        obtain ⟨W6, hW6⟩ : ∃ W6, W6 = w5.alloc (.cells #[.int .u8 0, .string ⟨#[]⟩, .int .i64 0, .slice none 0 0] 24) := ⟨_, rfl⟩
        have hB6 : Below w5.heap.size w5 W6 := by rw [hW6]; exact (Below.refl _ _).alloc (Nat.le_refl _) _
        have X6 := Lib.hid (by rw [hW6]; exact BoxIs.new w5 ⟨0, ⟨#[]⟩, 0, none, 0, .nil⟩ 24 : BoxIs w5.heap.size ⟨0, ⟨#[]⟩, 0, none, 0, .nil⟩ W6)
        have Z6 := Lib.hid hW6
        replace BA := Lib.hid (BA.out.below hB6)
        replace XB := Lib.hid (XB.out.below hB6)
        replace BW := Lib.hid (BW.out.trans (hB6.mono BW.out.size))
        clear hB6 hW6
        go_upto_region 11 with fail
        rw [← Z6.out]
        have c0 := XB.out.c0
        have c1 := XB.out.c1
        have c2 := XB.out.c2
        have c3 := XB.out.c3
        go_wp2_with fail
        refine (bnodes_any had hhl2 EH.out SH.out W6 q c BA.out t OK.out hts (TAT.out.below BW.out) (-1)).mono ?_
        rintro e w7 ⟨rfl, hB⟩
        rw [HF.out]
        replace X6 := Lib.hid (X6.out.below hB)
        replace BW := Lib.hid (BW.out.trans (hB.mono BW.out.size))
        clear hB c0 c1 c2 c3
        have c0 := X6.out.c0
        have c1 := X6.out.c1
        have c2 := X6.out.c2
        have c3 := X6.out.c3
        simp only [Ts.len] at c3
        go_wp2_with fail
        refine (same_twins (x := ⟨0, ⟨#[]⟩, 0, none, 0, .nil⟩) (y := ⟨0, ⟨#[]⟩, 0, none, 0, .nil⟩) (Nd.twin_refl _) trivial trivial (by simp [Ts.len]) w7 ⟨0, 0, .inl rfl, trivial⟩ ⟨0, 0, .inl rfl, trivial⟩).mono ?_
        rintro e w8 ⟨rfl, hB⟩
        replace BW := Lib.hid (BW.out.trans (hB.mono BW.out.size))
        clear hB
        go_wp2_with fail
        refine (wakes3_any w8).mono ?_
        rintro e w9 ⟨rfl, hB⟩
        replace BW := Lib.hid (BW.out.trans (hB.mono BW.out.size))
        clear hB
        go_wp2
        go_ret
        exact ⟨rfl, BW.out⟩
      · obtain ⟨N, hN⟩ : ∃ N, N = (vis (look had) 4097 [t]).length := ⟨_, rfl⟩
        have hNle : N ≤ 4096 := by rw [hN, ← TV.out.length]; exact hle
        obtain ⟨n0, hn0, hcn⟩ := cnt_of (σ := look had) (t := t) (by rw [← hN]; exact hNle)
        have CN := Lib.hid hcn
        have HN := Lib.hid hN
        have TW : Hid ((wk σ t).twin (wk (look had) t)) := Lib.hid (ST.out.wk SS.out.ends (Nd.twin_refl t))
        have HAP := Lib.hid happ
        have SE2 := Lib.hid SS.out.ends
        have hul : us.len ≤ 1000000 := by
          have h1 := happ.len
          rw [elems_length] at h1
          have h2 := Ts.len_size (wk σ t).kids
          have h3 := (SS.out.walked ⟨TAT.out.below BW.out, OK.out, hts⟩).2.2
          omega
        have UA := Lib.hid hua.at
        have HOK := Lib.hid hokU
        clear hle hN hcn happ hua hokU hnU
        unfold tv
        obtain ⟨W6, hW6⟩ : ∃ W6, W6 = w5.alloc (.cells #[.int .u8 (wk σ t).k, .string (wk σ t).s, .int .i64 (wk σ t).n, .slice q5 us.len us.len] 24) := ⟨_, rfl⟩
        have hB6 : Below w5.heap.size w5 W6 := by rw [hW6]; exact (Below.refl _ _).alloc (Nat.le_refl _) _
        have X6 := Lib.hid (by rw [hW6]; exact BoxIs.new w5 ⟨(wk σ t).k, (wk σ t).s, (wk σ t).n, q5, us.len, us⟩ 24 : BoxIs w5.heap.size ⟨(wk σ t).k, (wk σ t).s, (wk σ t).n, q5, us.len, us⟩ W6)
        have Z6 := Lib.hid hW6
        replace BA := Lib.hid (BA.out.below hB6)
        replace XB := Lib.hid (XB.out.below hB6)
        replace UA := Lib.hid (UA.out.below hB6)
        replace BW := Lib.hid (BW.out.trans (hB6.mono BW.out.size))
        clear hB6 hW6
        go_upto_region 11 with fail
        rw [← Z6.out]
        have c0 := XB.out.c0
        have c1 := XB.out.c1
        have c2 := XB.out.c2
        have c3 := XB.out.c3
        go_wp2_with fail
        refine (bnodes_any had hhl2 EH.out SH.out W6 q c BA.out t OK.out hts (TAT.out.below BW.out) (-1)).mono ?_
        rintro e w7 ⟨rfl, hB⟩
        rw [← HN.out]
        replace X6 := Lib.hid (X6.out.below hB)
        replace BA := Lib.hid (BA.out.below hB)
        replace XB := Lib.hid (XB.out.below hB)
        replace UA := Lib.hid (UA.out.below hB)
        replace BW := Lib.hid (BW.out.trans (hB.mono BW.out.size))
        clear hB c0 c1 c2 c3
        go_upto_region 14 with fail
        refine region_by_facts (fun W_ => Below w7.heap.size w7 W_) [fun u _ => u = .int .i64 0, fun u _ => u = .bool true, fun u _ => u = .bool true, fun u _ => u = .agg #[.int .u8 (wk σ t).k, .string (wk σ t).s, .int .i64 (wk σ t).n, .slice q5 us.len us.len], fun u _ => u = .slice q had.length c, fun u _ => u = .agg #[.int .u8 t.k, .string t.s, .int .i64 t.n, .slice t.p t.kids.len t.c], fun u W => RApp (look had) (wk (look had) t) w7.heap.size u W, fun u _ => u = .bool true, fun u _ => u = .bool true, fun u _ => u = .bool true, fun u _ => u = .bool true, fun u _ => u = .bool true, fun u _ => u = .bool true]
          ⟨.eq _, .eq _, .eq _, .eq _, .eq _, .eq _, (fun _ _ _ h hB => h.below hB), .eq _, .eq _, .eq _, .eq _, .eq _, .eq _, trivial⟩ (by kernel_rfl) (by kernel_rfl) (by kernel_rfl) ?h0 ?steps ?done
        case h0 => exact (Below.refl _ _).drew
        case steps =>
          refine ⟨?_, ?_, ?_, ?_, ?_, ?_, ?_, ?_, ?_, ?_, ?_, ?_, ?_, trivial⟩
          · intro g_ W_ hI hd K hK
            simp only [frameOf, Act.put, List.setIfInBounds_toArray, List.set_cons_zero, List.set_cons_succ]
            go_simp
            refine hK.out (.int .i64 0) _ W_ ?_ hI (Below.refl _ _) rfl
            simp only [frameOf, Act.put, List.setIfInBounds_toArray, List.set_cons_zero, List.set_cons_succ, Nat.zero_add, Nat.reduceAdd]
          · intro g_ W_ hI hd K hK
            simp only [frameOf, Act.put, List.setIfInBounds_toArray, List.set_cons_zero, List.set_cons_succ]
            have h0 : g_ 0 = .int .i64 0 := hd 0 (by kernel_rfl)
            rw [h0]
            go_simp
            refine hK.out (.bool true) _ W_ ?_ hI (Below.refl _ _) rfl
            simp only [frameOf, Act.put, List.setIfInBounds_toArray, List.set_cons_zero, List.set_cons_succ, Nat.zero_add, Nat.reduceAdd, h0]
          · intro g_ W_ hI hd K hK
            simp only [frameOf, Act.put, List.setIfInBounds_toArray, List.set_cons_zero, List.set_cons_succ]
            have h1 : g_ 1 = .bool true := hd 1 (by kernel_rfl)
            rw [h1]
            go_simp
            refine hK.out (.bool true) _ W_ ?_ hI (Below.refl _ _) rfl
            simp only [frameOf, Act.put, List.setIfInBounds_toArray, List.set_cons_zero, List.set_cons_succ, Nat.zero_add, Nat.reduceAdd, h1]
          · intro g_ W_ hI hd K hK
            simp only [frameOf, Act.put, List.setIfInBounds_toArray, List.set_cons_zero, List.set_cons_succ]
            have h2 : g_ 2 = .bool true := hd 2 (by kernel_rfl)
            rw [h2]
            have XW := X6.out.below hI
            have c0 := XW.c0
            have c1 := XW.c1
            have c2 := XW.c2
            have c3 := XW.c3
            simp only at c0 c1 c2 c3
            go_simp
            refine hK.out (.agg #[.int .u8 (wk σ t).k, .string (wk σ t).s, .int .i64 (wk σ t).n, .slice q5 us.len us.len]) _ W_ ?_ hI (Below.refl _ _) rfl
            simp only [frameOf, Act.put, List.setIfInBounds_toArray, List.set_cons_zero, List.set_cons_succ, Nat.zero_add, Nat.reduceAdd, h2]
          · intro g_ W_ hI hd K hK
            simp only [frameOf, Act.put, List.setIfInBounds_toArray, List.set_cons_zero, List.set_cons_succ]
            have h2 : g_ 2 = .bool true := hd 2 (by kernel_rfl)
            rw [h2]
            go_simp
            refine hK.out (.slice q had.length c) _ W_ ?_ hI (Below.refl _ _) rfl
            simp only [frameOf, Act.put, List.setIfInBounds_toArray, List.set_cons_zero, List.set_cons_succ, Nat.zero_add, Nat.reduceAdd, h2]
          · intro g_ W_ hI hd K hK
            simp only [frameOf, Act.put, List.setIfInBounds_toArray, List.set_cons_zero, List.set_cons_succ]
            have h2 : g_ 2 = .bool true := hd 2 (by kernel_rfl)
            rw [h2]
            have XW := XB.out.below hI
            have c0 := XW.c0
            have c1 := XW.c1
            have c2 := XW.c2
            have c3 := XW.c3
            go_simp
            refine hK.out (.agg #[.int .u8 t.k, .string t.s, .int .i64 t.n, .slice t.p t.kids.len t.c]) _ W_ ?_ hI (Below.refl _ _) rfl
            simp only [frameOf, Act.put, List.setIfInBounds_toArray, List.set_cons_zero, List.set_cons_succ, Nat.zero_add, Nat.reduceAdd, h2]
          · intro g_ W_ hI hd K hK
            simp only [frameOf, Act.put, List.setIfInBounds_toArray, List.set_cons_zero, List.set_cons_succ]
            have h2 : g_ 2 = .bool true := hd 2 (by kernel_rfl)
            have h4 : g_ 4 = .slice q had.length c := hd 4 (by kernel_rfl)
            have h5 : g_ 5 = .agg #[.int .u8 t.k, .string t.s, .int .i64 t.n, .slice t.p t.kids.len t.c] := hd 5 (by kernel_rfl)
            rw [h2, h4, h5]
            go_simp
            refine (rapply_any had hhl2 EH.out SH.out n0 t CN.out hn0 OK.out hts W_ q c (BA.out.below hI) ((TAT.out.below BW.out).below hI)).mono ?_
            rintro e w' ⟨v', rfl, hR, hB⟩
            refine hK.out v' _ w' ?_ (hI.trans (hB.mono hI.size)) hB (hR.mono hI.size)
            simp only [frameOf, Act.put, List.setIfInBounds_toArray, List.set_cons_zero, List.set_cons_succ, Nat.zero_add, Nat.reduceAdd, h2, h4, h5]
          · intro g_ W_ hI hd K hK
            simp only [frameOf, Act.put, List.setIfInBounds_toArray, List.set_cons_zero, List.set_cons_succ]
            have h2 : g_ 2 = .bool true := hd 2 (by kernel_rfl)
            have h3 : g_ 3 = .agg #[.int .u8 (wk σ t).k, .string (wk σ t).s, .int .i64 (wk σ t).n, .slice q5 us.len us.len] := hd 3 (by kernel_rfl)
            obtain ⟨us6, q6, d6, h6, ha6, hap6, hok6, hcl6, hqn6⟩ := hd 6 (by kernel_rfl)
            rw [h2, h3, h6]
            unfold tv at h6 ⊢
            go_simp
            refine (same_twins (x := ⟨(wk σ t).k, (wk σ t).s, (wk σ t).n, q5, us.len, us⟩) (y := ⟨(wk (look had) t).k, (wk (look had) t).s, (wk (look had) t).n, q6, d6, us6⟩) ⟨TW.out.1, TW.out.2.1, TW.out.2.2.1, HAP.out.tw ST.out SE2.out (elems_tw TW.out.2.2.2) hap6⟩ HOK.out hok6 hul W_ (UA.out.below hI) (AtP_at ha6)).mono ?_
            rintro e w' ⟨rfl, hB⟩
            refine hK.out (.bool true) _ w' ?_ (hI.trans (hB.mono hI.size)) hB rfl
            simp only [frameOf, Act.put, List.setIfInBounds_toArray, List.set_cons_zero, List.set_cons_succ, Nat.zero_add, Nat.reduceAdd, h2, h3, h6]
          · intro g_ W_ hI hd K hK
            simp only [frameOf, Act.put, List.setIfInBounds_toArray, List.set_cons_zero, List.set_cons_succ]
            have h2 : g_ 2 = .bool true := hd 2 (by kernel_rfl)
            have h7 : g_ 7 = .bool true := hd 7 (by kernel_rfl)
            rw [h2, h7]
            go_simp
            refine hK.out (.bool true) _ W_ ?_ hI (Below.refl _ _) rfl
            simp only [frameOf, Act.put, List.setIfInBounds_toArray, List.set_cons_zero, List.set_cons_succ, Nat.zero_add, Nat.reduceAdd, h2, h7]
          · intro g_ W_ hI hd K hK
            simp only [frameOf, Act.put, List.setIfInBounds_toArray, List.set_cons_zero, List.set_cons_succ]
            have h8 : g_ 8 = .bool true := hd 8 (by kernel_rfl)
            rw [h8]
            go_simp
            refine hK.out (.bool true) _ W_ ?_ hI (Below.refl _ _) rfl
            simp only [frameOf, Act.put, List.setIfInBounds_toArray, List.set_cons_zero, List.set_cons_succ, Nat.zero_add, Nat.reduceAdd, h8]
          · intro g_ W_ hI hd K hK
            simp only [frameOf, Act.put, List.setIfInBounds_toArray, List.set_cons_zero, List.set_cons_succ]
            have h9 : g_ 9 = .bool true := hd 9 (by kernel_rfl)
            rw [h9]
            go_simp
            refine (wakes3_any W_).mono ?_
            rintro e w' ⟨rfl, hB⟩
            refine hK.out (.bool true) _ w' ?_ (hI.trans (hB.mono hI.size)) hB rfl
            simp only [frameOf, Act.put, List.setIfInBounds_toArray, List.set_cons_zero, List.set_cons_succ, Nat.zero_add, Nat.reduceAdd, h9]
          · intro g_ W_ hI hd K hK
            simp only [frameOf, Act.put, List.setIfInBounds_toArray, List.set_cons_zero, List.set_cons_succ]
            have h9 : g_ 9 = .bool true := hd 9 (by kernel_rfl)
            have h10 : g_ 10 = .bool true := hd 10 (by kernel_rfl)
            rw [h9, h10]
            go_simp
            refine hK.out (.bool true) _ W_ ?_ hI (Below.refl _ _) rfl
            simp only [frameOf, Act.put, List.setIfInBounds_toArray, List.set_cons_zero, List.set_cons_succ, Nat.zero_add, Nat.reduceAdd, h9, h10]
          · intro g_ W_ hI hd K hK
            simp only [frameOf, Act.put, List.setIfInBounds_toArray, List.set_cons_zero, List.set_cons_succ]
            have h11 : g_ 11 = .bool true := hd 11 (by kernel_rfl)
            rw [h11]
            go_simp
            refine hK.out (.bool true) _ W_ ?_ hI (Below.refl _ _) rfl
            simp only [frameOf, Act.put, List.setIfInBounds_toArray, List.set_cons_zero, List.set_cons_succ, Nat.zero_add, Nat.reduceAdd, h11]
        case done =>
          intro f_ W_ hI hd
          have h12 : f_ 12 = .bool true := hd 12 (by decide)
          simp only [frameOf, Act.put, List.setIfInBounds_toArray, List.set_cons_zero, List.set_cons_succ, Nat.zero_add, Nat.reduceAdd, h12]
          clear hd
          go_wp2
          go_ret
          exact ⟨rfl, BW.out.trans (hI.mono BW.out.size)⟩

end Go.Proofs.Ytflomdnjabgnaaa
