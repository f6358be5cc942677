import Derived.Test.YtflomdnjabgnaaaDi
import Derived.Test.YtflomdnjabgnaaaBl
import Derived.Test.YtflomdnjabgnaaaDb
/-
  The law UnifyMost, walked. (Written by gen_dj.py.)
-/
namespace Go.Proofs.Ytflomdnjabgnaaa
open Go.RowKit

set_option maxRecDepth 100000 in
set_option maxHeartbeats 16000000 in
theorem unifyMost_true (l : List (Int × Nd)) (a b : Nd) (hl63 : l.length ≤ 9223372036854775807) (hbok : (bsTs l).ok) (hvr : ∀ e ∈ l, -9223372036854775808 ≤ e.1 ∧ e.1 ≤ 9223372036854775807) (w : World) (lp : Option Addr) (lc : Nat) (hat : BsAt w lp l) (hoka : a.ok) (hata : Ts.At w a.p a.kids) (hokb : b.ok) (hatb : Ts.At w b.p b.kids) :
    Calls Try.prog 8 #[.slice lp l.length lc, .agg #[.int .u8 a.k, .string a.s, .int .i64 a.n, .slice a.p a.kids.len a.c], .agg #[.int .u8 b.k, .string b.s, .int .i64 b.n, .slice b.p b.kids.len b.c]] w fun e w' => e = .returned (.bool true) ∧ Below w.heap.size w w' := by
  have BOK := Lib.hid hbok
  have VR := Lib.hid hvr
  have AT := Lib.hid hat
  have OKa := Lib.hid hoka
  have OKb := Lib.hid hokb
  have ATa := Lib.hid hata
  have ATb := Lib.hid hatb
  clear hbok hvr hat hoka hata hokb hatb
  obtain ⟨g, hg⟩ : ∃ g, g = bGreat l a := ⟨_, rfl⟩
  have GG := Lib.hid hg
  obtain ⟨g2, hg2⟩ : ∃ g, g = decide (1000 < manyP (.cons b.k b.s b.n b.p b.c b.kids .nil) 0) := ⟨_, rfl⟩
  have GG2 := Lib.hid hg2
  obtain ⟨ga, hga⟩ : ∃ g, g = goodB 64 a.k a.s a.n a.kids := ⟨_, rfl⟩
  have GA := Lib.hid hga
  obtain ⟨gb, hgb⟩ : ∃ g, g = goodB 64 b.k b.s b.n b.kids := ⟨_, rfl⟩
  have GB := Lib.hid hgb
  obtain ⟨o1, ho1⟩ : ∃ o, o = un 4096 0 Sb.none [(a, b)] := ⟨_, rfl⟩
  have E1 := Lib.hid ho1
  clear hg hg2 hga hgb ho1
  go_enter Try.func8, Try.ntmps8
  go_upto_region 1 with fail
  obtain ⟨W0, hW0⟩ : ∃ W0, W0 = (w.alloc (.cells #[.int .u8 a.k, .string a.s, .int .i64 a.n, .slice a.p a.kids.len a.c] 24)).alloc (.cells #[.int .u8 b.k, .string b.s, .int .i64 b.n, .slice b.p b.kids.len b.c] 24) := ⟨_, rfl⟩
  rw [← hW0]
  have hB0 : Below w.heap.size w W0 := by rw [hW0]; exact below2 _ _ _
  have hXt : BoxIs w.heap.size a W0 := by rw [hW0]; exact (BoxIs.new w a _).below ((Below.refl _ _).alloc (Nat.le_refl _) _)
  have hXo : BoxIs (w.heap.size + 1) b W0 := by
    have := BoxIs.new (w.alloc (.cells #[.int .u8 a.k, .string a.s, .int .i64 a.n, .slice a.p a.kids.len a.c] 24)) b 24
    rw [World.size_alloc] at this
    rw [hW0]; exact this
  have BW := Lib.hid hB0
  have XT := Lib.hid hXt
  have XO := Lib.hid hXo
  clear hW0 hB0 hXt hXo
  have c0 := XT.out.c0
  have c1 := XT.out.c1
  have c2 := XT.out.c2
  have c3 := XT.out.c3
  go_wp2_with fail
  refine (bgreat_any l a hl63 BOK.out _ lp lc (AT.out.below BW.out) OKa.out (ATa.out.below BW.out)).mono ?_
  rintro e w1 ⟨rfl, hI⟩
  rw [← GG.out]
  clear c0 c1 c2 c3
  replace XT := Lib.hid (XT.out.below hI)
  replace XO := Lib.hid (XO.out.below hI)
  replace BW := Lib.hid (BW.out.trans (hI.mono BW.out.size))
  clear hI
  cases g with
  | true =>
    go_wp2_with fail
    refine (wakes4_any _).mono ?_
    rintro e we ⟨rfl, hB⟩
    replace BW := Lib.hid (BW.out.trans (hB.mono BW.out.size))
    clear hB
    go_wp2
    go_ret
    exact ⟨rfl, BW.out⟩

  | false =>
  obtain ⟨hl40, hsa, hbs⟩ := bGreat_size GG.out.symm
  have d0 := XO.out.c0
  have d1 := XO.out.c1
  have d2 := XO.out.c2
  have d3 := XO.out.c3
  go_wp2_with fail
  obtain ⟨W1, hW1⟩ : ∃ W, W = w1.alloc (.cells #[.int .u8 b.k, .string b.s, .int .i64 b.n, .slice b.p b.kids.len b.c] 24) := ⟨_, rfl⟩
  rw [← hW1]
  obtain ⟨hI, hat1⟩ := boxOne hW1 (ATb.out.below BW.out)
  clear d0 d1 d2 d3
  replace XT := Lib.hid (XT.out.below hI)
  replace XO := Lib.hid (XO.out.below hI)
  replace BW := Lib.hid (BW.out.trans (hI.mono BW.out.size))
  clear hI
  refine (great_is (.cons b.k b.s b.n b.p b.c b.kids .nil) OKb.out g2 GG2.out.symm W1 _ 1 hat1 (by simp [Ts.len])).mono ?_
  rintro e w2 ⟨rfl, hI⟩
  clear hat1 hW1
  replace XT := Lib.hid (XT.out.below hI)
  replace XO := Lib.hid (XO.out.below hI)
  replace BW := Lib.hid (BW.out.trans (hI.mono BW.out.size))
  clear hI
  cases g2 with
  | true =>
    go_wp2_with fail
    refine (wakes4_any _).mono ?_
    rintro e we ⟨rfl, hB⟩
    replace BW := Lib.hid (BW.out.trans (hB.mono BW.out.size))
    clear hB
    go_wp2
    go_ret
    exact ⟨rfl, BW.out⟩

  | false =>
  have hsb0 := small_of_many GG2.out.symm
  simp only [Ts.size] at hsb0
  have hsb : b.kids.size ≤ 5000 := by omega
  have c0 := XT.out.c0
  have c1 := XT.out.c1
  have c2 := XT.out.c2
  have c3 := XT.out.c3
  go_wp2_with fail
  refine (rGood_any a.kids (by omega) OKa.out.2.2.2.2.2.1 a.k a.s a.n w2 a.p a.c OKa.out.2.1 (ATa.out.below BW.out)).mono ?_
  rintro e w3 ⟨rfl, hI⟩
  clear c0 c1 c2 c3
  replace XT := Lib.hid (XT.out.below hI)
  replace XO := Lib.hid (XO.out.below hI)
  replace BW := Lib.hid (BW.out.trans (hI.mono BW.out.size))
  clear hI
  rw [← GA.out]
  cases ga with
  | false =>
    go_wp2_with fail
    refine (wakes4_any _).mono ?_
    rintro e we ⟨rfl, hB⟩
    replace BW := Lib.hid (BW.out.trans (hB.mono BW.out.size))
    clear hB
    go_wp2
    go_ret
    exact ⟨rfl, BW.out⟩

  | true =>
  have d0 := XO.out.c0
  have d1 := XO.out.c1
  have d2 := XO.out.c2
  have d3 := XO.out.c3
  go_wp2_with fail
  refine (rGood_any b.kids (by omega) OKb.out.2.2.2.2.2.1 b.k b.s b.n w3 b.p b.c OKb.out.2.1 (ATb.out.below BW.out)).mono ?_
  rintro e w4 ⟨rfl, hI⟩
  clear d0 d1 d2 d3
  replace XT := Lib.hid (XT.out.below hI)
  replace XO := Lib.hid (XO.out.below hI)
  replace BW := Lib.hid (BW.out.trans (hI.mono BW.out.size))
  clear hI
  rw [← GB.out]
  cases gb with
  | false =>
    go_wp2_with fail
    refine (wakes4_any _).mono ?_
    rintro e we ⟨rfl, hB⟩
    replace BW := Lib.hid (BW.out.trans (hB.mono BW.out.size))
    clear hB
    go_wp2
    go_ret
    exact ⟨rfl, BW.out⟩

  | true =>
  have NA : Hid (GN a) := Lib.hid ⟨good_nd GA.out.symm, name_nd GA.out.symm⟩
  have NB : Hid (GN b) := Lib.hid ⟨good_nd GB.out.symm, name_nd GB.out.symm⟩
  clear GA GB
  go_wp2_with fail
  go_loopw [7] (fun s7 wr => ∃ j : Nat, s7 = .int .i64 j ∧ j ≤ l.length ∧ Hid (∀ i e, i < j → l[i]? = some e → GN e.2) ∧ Hid (Below w4.heap.size w4 wr)) (fun i _ => l.length - (intOf i).toNat)
  case atStart => exact ⟨0, rfl, Nat.zero_le _, Lib.hid (fun i e hi _ => by omega), Lib.hid (Below.refl _ _)⟩
  case round =>
    obtain ⟨j, rfl, hjl, GJ, BR⟩ := hrel
    replace BW := Lib.hid (BW.out.trans (BR.out.mono BW.out.size))
    replace XT := Lib.hid (XT.out.below BR.out)
    replace XO := Lib.hid (XO.out.below BR.out)
    by_cases hlt : j < l.length
    · obtain ⟨b0, o0, hp0, hlies0⟩ := AT.out
      have hpp : lp = some ⟨b0, o0, none⟩ := by
        rcases hp0 with h | h
        · rw [h] at hlt; simp at hlt
        · exact h
      subst hpp
      obtain ⟨⟨v, x⟩, hux⟩ : ∃ ux, l[j]? = some ux := ⟨_, List.getElem?_eq_getElem hlt⟩
      have HUX := Lib.hid hux
      have EL := (hlies0.stay (stays BW.out).1).get hux
      have c0 := EL.c0
      have c1 := EL.c1
      have c2 := EL.c2
      have c3 := EL.c3
      have c4 := EL.c4
      have XA := Lib.hid EL.at_
      have hxo := bsTs_get BOK.out hux
      have XK := Lib.hid hxo.1
      have hxs : x.kids.size ≤ 5000 := by have := hxo.2; omega
      clear EL hux hxo hlies0 hp0
      go_wp2_with fail
      refine (rGood_any x.kids (by omega) XK.out.2.2.2.2.2.1 x.k x.s x.n wr x.p x.c XK.out.2.1 XA.out).mono ?_
      rintro e w5 ⟨rfl, hI⟩
      obtain ⟨gx, hgx⟩ : ∃ g, g = goodB 64 x.k x.s x.n x.kids := ⟨_, rfl⟩
      rw [← hgx]
      have GX := Lib.hid hgx
      clear hgx c0 c1 c2 c3 c4
      cases gx with
      | false =>
        replace BW := Lib.hid (BW.out.trans (hI.mono BW.out.size))
        clear hI
        go_wp2_with fail
        refine (wakes4_any _).mono ?_
        rintro e we ⟨rfl, hB⟩
        replace BW := Lib.hid (BW.out.trans (hB.mono BW.out.size))
        clear hB
        go_wp2
        go_ret
        exact ⟨rfl, BW.out⟩

      | true =>
        replace BR := Lib.hid (BR.out.trans (hI.mono BR.out.size))
        clear hI
        have GJ2 : Hid (∀ i e, i < j + 1 → l[i]? = some e → GN e.2) := Lib.hid (fun i e hi he => by
          by_cases hij : i = j
          · subst hij
            rw [HUX.out] at he
            cases he
            exact ⟨good_nd GX.out.symm, name_nd GX.out.symm⟩
          · exact GJ.out i e (by omega) he)
        go_wp2
        go_roundw
        case rel => exact ⟨j + 1, by go_num, by omega, GJ2, BR⟩
        case measure => simp [intOf]; omega
    · have hje : j = l.length := by omega
      subst hje
      have GL : Hid (∀ e ∈ l, GN e.2) := Lib.hid (fun e he => by
        obtain ⟨i, hi⟩ := List.mem_iff_getElem?.1 he
        exact GJ.out i e (by have := (List.getElem?_eq_some_iff.1 hi).1; omega) hi)
      clear BR GJ
      go_upto_region 8 with fail
      obtain ⟨W0, hW0⟩ : ∃ W0, W0 = wr := ⟨_, rfl⟩
      rw [← hW0] at XT XO BW ⊢
      clear hW0
      refine region_by_facts (fun W_ => Below W0.heap.size W0 W_) [fun u W => ∃ S, u = .pointer (some ⟨S, 0, none⟩) ∧ SubAt S Sb.none 0 W, fun u _ => u = .agg #[.int .u8 a.k, .string a.s, .int .i64 a.n, .slice a.p a.kids.len a.c], fun u _ => u = .agg #[.int .u8 b.k, .string b.s, .int .i64 b.n, .slice b.p b.kids.len b.c], fun u W => ∃ p, u = .tuple #[p, .bool (okU o1), .int .i64 (gU o1)] ∧ PU o1 p W, fun u W => ∃ p, u = .tuple #[p, .bool (okU o1), .int .i64 (gU o1)] ∧ PU o1 p W, PU o1, fun u _ => u = .bool (okU o1), fun u _ => u = .int .i64 (gU o1), PU o1, fun u _ => u = .bool (okU o1), fun u _ => u = .int .i64 (gU o1)]
        ⟨(by rintro v_ w_ x_ ⟨S, h1, h2⟩ hB; exact ⟨S, h1, h2.below hB⟩), .eq _, .eq _, (by rintro v_ w_ x_ ⟨p, h1, h2⟩ hB; exact ⟨p, h1, h2.below hB⟩), (by rintro v_ w_ x_ ⟨p, h1, h2⟩ hB; exact ⟨p, h1, h2.below hB⟩), (fun v_ w_ x_ h hB => PU.below h hB), .eq _, .eq _, (fun v_ w_ x_ h hB => PU.below h hB), .eq _, .eq _, trivial⟩ (by kernel_rfl) (by kernel_rfl) (by kernel_rfl) ?h0a ?stepsa ?donea
      case h0a => exact (Below.refl _ _).drew
      case stepsa =>
        refine ⟨?_, ?_, ?_, ?_, ?_, ?_, ?_, ?_, ?_, ?_, ?_, trivial⟩
        · intro g_ W_ hI hd K hK
          simp only [frameOf, Act.put, List.setIfInBounds_toArray, List.set_cons_zero, List.set_cons_succ]
          go_simp
          refine (new_any W_).mono ?_
          rintro e w' ⟨rfl, hS, hB⟩
          refine hK.out (.pointer (some ⟨W_.heap.size, 0, none⟩)) _ _ ?_ (hI.trans (hB.mono hI.size)) hB ⟨_, rfl, hS⟩
          simp only [frameOf, Act.put, List.setIfInBounds_toArray, List.set_cons_zero, List.set_cons_succ, Nat.zero_add, Nat.reduceAdd]
        · intro g_ W_ hI hd K hK
          simp only [frameOf, Act.put, List.setIfInBounds_toArray, List.set_cons_zero, List.set_cons_succ]
          have XW := XT.out.below hI
          have c0 := XW.c0
          have c1 := XW.c1
          have c2 := XW.c2
          have c3 := XW.c3
          go_simp
          refine hK.out (.agg #[.int .u8 a.k, .string a.s, .int .i64 a.n, .slice a.p a.kids.len a.c]) _ W_ ?_ hI (Below.refl _ _) rfl
          simp only [frameOf, Act.put, List.setIfInBounds_toArray, List.set_cons_zero, List.set_cons_succ, Nat.zero_add, Nat.reduceAdd]
        · intro g_ W_ hI hd K hK
          simp only [frameOf, Act.put, List.setIfInBounds_toArray, List.set_cons_zero, List.set_cons_succ]
          have XW := XO.out.below hI
          have c0 := XW.c0
          have c1 := XW.c1
          have c2 := XW.c2
          have c3 := XW.c3
          go_simp
          refine hK.out (.agg #[.int .u8 b.k, .string b.s, .int .i64 b.n, .slice b.p b.kids.len b.c]) _ W_ ?_ hI (Below.refl _ _) rfl
          simp only [frameOf, Act.put, List.setIfInBounds_toArray, List.set_cons_zero, List.set_cons_succ, Nat.zero_add, Nat.reduceAdd]
        · intro g_ W_ hI hd K hK
          simp only [frameOf, Act.put, List.setIfInBounds_toArray, List.set_cons_zero, List.set_cons_succ]
          obtain ⟨S_, h0, hS_⟩ := hd 0 (by kernel_rfl)
          have h1 : g_ 1 = .agg #[.int .u8 a.k, .string a.s, .int .i64 a.n, .slice a.p a.kids.len a.c] := hd 1 (by kernel_rfl)
          have h2 : g_ 2 = .agg #[.int .u8 b.k, .string b.s, .int .i64 b.n, .slice b.p b.kids.len b.c] := hd 2 (by kernel_rfl)
          rw [h0, h1, h2]
          go_simp
          refine (Unify_any S_ Sb.none 0 W_ hS_ (by omega) a b OKa.out OKb.out (ATa.out.below (BW.out.trans (hI.mono BW.out.size))) (ATb.out.below (BW.out.trans (hI.mono BW.out.size))) hsa hsb).mono ?_
          intro e w' hL
          obtain ⟨p_, he, hp_⟩ := hL.pu
          rw [← E1.out] at he hp_
          subst he
          have hB := hL.1
          refine hK.out (.tuple #[p_, .bool (okU o1), .int .i64 (gU o1)]) _ _ ?_ (hI.trans (hB.mono hI.size)) hB ⟨p_, rfl, hp_⟩
          simp only [frameOf, Act.put, List.setIfInBounds_toArray, List.set_cons_zero, List.set_cons_succ, Nat.zero_add, Nat.reduceAdd, h0, h1, h2]
        · intro g_ W_ hI hd K hK
          simp only [frameOf, Act.put, List.setIfInBounds_toArray, List.set_cons_zero, List.set_cons_succ]
          obtain ⟨p_, h3, hp_⟩ := hd 3 (by kernel_rfl)
          rw [h3]
          go_simp
          refine hK.out (.tuple #[p_, .bool (okU o1), .int .i64 (gU o1)]) _ W_ ?_ hI (Below.refl _ _) ⟨p_, rfl, hp_⟩
          simp only [frameOf, Act.put, List.setIfInBounds_toArray, List.set_cons_zero, List.set_cons_succ, Nat.zero_add, Nat.reduceAdd, h3]
        · intro g_ W_ hI hd K hK
          simp only [frameOf, Act.put, List.setIfInBounds_toArray, List.set_cons_zero, List.set_cons_succ]
          obtain ⟨p_, h4, hp_⟩ := hd 4 (by kernel_rfl)
          rw [h4]
          go_simp
          refine hK.out p_ _ W_ ?_ hI (Below.refl _ _) hp_
          simp only [frameOf, Act.put, List.setIfInBounds_toArray, List.set_cons_zero, List.set_cons_succ, Nat.zero_add, Nat.reduceAdd, h4]
        · intro g_ W_ hI hd K hK
          simp only [frameOf, Act.put, List.setIfInBounds_toArray, List.set_cons_zero, List.set_cons_succ]
          obtain ⟨p_, h4, hp_⟩ := hd 4 (by kernel_rfl)
          rw [h4]
          go_simp
          refine hK.out (.bool (okU o1)) _ W_ ?_ hI (Below.refl _ _) rfl
          simp only [frameOf, Act.put, List.setIfInBounds_toArray, List.set_cons_zero, List.set_cons_succ, Nat.zero_add, Nat.reduceAdd, h4]
        · intro g_ W_ hI hd K hK
          simp only [frameOf, Act.put, List.setIfInBounds_toArray, List.set_cons_zero, List.set_cons_succ]
          obtain ⟨p_, h4, hp_⟩ := hd 4 (by kernel_rfl)
          rw [h4]
          go_simp
          refine hK.out (.int .i64 (gU o1)) _ W_ ?_ hI (Below.refl _ _) rfl
          simp only [frameOf, Act.put, List.setIfInBounds_toArray, List.set_cons_zero, List.set_cons_succ, Nat.zero_add, Nat.reduceAdd, h4]
        · intro g_ W_ hI hd K hK
          simp only [frameOf, Act.put, List.setIfInBounds_toArray, List.set_cons_zero, List.set_cons_succ]
          have hp_ := hd 5 (by kernel_rfl)
          go_simp
          refine hK.out (g_ 5) _ W_ ?_ hI (Below.refl _ _) hp_
          simp only [frameOf, Act.put, List.setIfInBounds_toArray, List.set_cons_zero, List.set_cons_succ, Nat.zero_add, Nat.reduceAdd]
        · intro g_ W_ hI hd K hK
          simp only [frameOf, Act.put, List.setIfInBounds_toArray, List.set_cons_zero, List.set_cons_succ]
          have h6 : g_ 6 = .bool (okU o1) := hd 6 (by kernel_rfl)
          rw [h6]
          go_simp
          refine hK.out (.bool (okU o1)) _ W_ ?_ hI (Below.refl _ _) rfl
          simp only [frameOf, Act.put, List.setIfInBounds_toArray, List.set_cons_zero, List.set_cons_succ, Nat.zero_add, Nat.reduceAdd, h6]
        · intro g_ W_ hI hd K hK
          simp only [frameOf, Act.put, List.setIfInBounds_toArray, List.set_cons_zero, List.set_cons_succ]
          have h7 : g_ 7 = .int .i64 (gU o1) := hd 7 (by kernel_rfl)
          rw [h7]
          go_simp
          refine hK.out (.int .i64 (gU o1)) _ W_ ?_ hI (Below.refl _ _) rfl
          simp only [frameOf, Act.put, List.setIfInBounds_toArray, List.set_cons_zero, List.set_cons_succ, Nat.zero_add, Nat.reduceAdd, h7]
      case donea =>
        intro fa W_ hI hd
        have q8 := hd 8 (by decide)
        have h9 : fa 9 = .bool (okU o1) := hd 9 (by decide)
        have h10 : fa 10 = .int .i64 (gU o1) := hd 10 (by decide)
        simp only [frameOf, Act.put, List.setIfInBounds_toArray, List.set_cons_zero, List.set_cons_succ, Nat.zero_add, Nat.reduceAdd, h9, h10]
        have P1 : Hid (PU o1 (fa 8) W_) := Lib.hid q8
        clear hd q8 h9 h10
        replace XT := Lib.hid (XT.out.below hI)
        replace XO := Lib.hid (XO.out.below hI)
        replace BW := Lib.hid (BW.out.trans (hI.mono BW.out.size))
        clear hI
        clear W0
        rename World => W5
        go_wp2_with fail
        refine (make_chain l hl40 BOK.out hbs VR.out W5 lp lc (AT.out.below BW.out)).mono ?_
        rintro e w6 ⟨had, σc, q6, c6, rfl, hhl, hS, hST, hCH, hI⟩
        have CC := Lib.hid (hCH.cand GL.out hST)
        have SC := Lib.hid hS
        have hn40 : had.length < 1000000 := by omega
        clear hST hCH hS
        obtain ⟨Sc, hSc⟩ : ∃ S, S = W5.heap.size := ⟨_, rfl⟩
        rw [← hSc] at SC ⊢
        clear hSc
        obtain ⟨N, hN⟩ : ∃ N, N = had.length := ⟨_, rfl⟩
        rw [← hN] at SC hn40
        clear hN hhl
        replace XT := Lib.hid (XT.out.below hI)
        replace XO := Lib.hid (XO.out.below hI)
        replace P1 := Lib.hid (P1.out.below hI)
        replace BW := Lib.hid (BW.out.trans (hI.mono BW.out.size))
        clear hI
        have c0 := XT.out.c0
        have c1 := XT.out.c1
        have c2 := XT.out.c2
        have c3 := XT.out.c3
        go_wp2_with fail
        refine (apply_any Sc σc N w6 SC.out a OKa.out (ATa.out.below BW.out) hsa).mono ?_
        rintro e w7 ⟨hA, hI⟩
        obtain ⟨X, F, rfl, hform⟩ := hA.form
        have HX := Lib.hid hform
        clear hA hform
        replace XT := Lib.hid (XT.out.below hI)
        replace XO := Lib.hid (XO.out.below hI)
        replace P1 := Lib.hid (P1.out.below hI)
        replace SC := Lib.hid (SC.out.below hI)
        replace BW := Lib.hid (BW.out.trans (hI.mono BW.out.size))
        clear hI
        clear c0 c1 c2 c3
        go_upto_region 13 with fail
        obtain ⟨W7, hW7⟩ : ∃ W, W = w7.alloc (.cells #[.int .u8 X.k, .string X.s, .int .i64 X.n, .slice X.p X.kids.len X.c] 24) := ⟨_, rfl⟩
        have hI : Below w7.heap.size w7 W7 := by rw [hW7]; exact (Below.refl _ _).alloc (Nat.le_refl _) _
        obtain ⟨B7, hB7⟩ : ∃ b, b = w7.heap.size := ⟨_, rfl⟩
        have XB7 := Lib.hid (by rw [hB7, hW7]; exact BoxIs.new w7 X 24 : BoxIs B7 X W7)
        have ZW7 := Lib.hid hW7
        have HEB7 := Lib.hid hB7
        clear hW7 hB7
        replace XT := Lib.hid (XT.out.below hI)
        replace XO := Lib.hid (XO.out.below hI)
        replace P1 := Lib.hid (P1.out.below hI)
        replace SC := Lib.hid (SC.out.below hI)
        replace HX := Lib.hid (HX.out.below hI)
        replace BW := Lib.hid (BW.out.trans (hI.mono BW.out.size))
        clear hI
        rw [← ZW7.out, ← HEB7.out]
        have d0 := XO.out.c0
        have d1 := XO.out.c1
        have d2 := XO.out.c2
        have d3 := XO.out.c3
        go_wp2_with fail
        refine (apply_any Sc σc N W7 SC.out b OKb.out (ATb.out.below BW.out) hsb).mono ?_
        rintro e w8 ⟨hA, hI⟩
        obtain ⟨Y, G, rfl, hform⟩ := hA.form
        have HY := Lib.hid hform
        clear hA hform
        replace XT := Lib.hid (XT.out.below hI)
        replace XO := Lib.hid (XO.out.below hI)
        replace P1 := Lib.hid (P1.out.below hI)
        replace SC := Lib.hid (SC.out.below hI)
        replace HX := Lib.hid (HX.out.below hI)
        replace XB7 := Lib.hid (XB7.out.below hI)
        replace BW := Lib.hid (BW.out.trans (hI.mono BW.out.size))
        clear hI
        clear d0 d1 d2 d3
        go_upto_region 14 with fail
        obtain ⟨W8, hW8⟩ : ∃ W, W = w8.alloc (.cells #[.int .u8 Y.k, .string Y.s, .int .i64 Y.n, .slice Y.p Y.kids.len Y.c] 24) := ⟨_, rfl⟩
        have hI : Below w8.heap.size w8 W8 := by rw [hW8]; exact (Below.refl _ _).alloc (Nat.le_refl _) _
        obtain ⟨B8, hB8⟩ : ∃ b, b = w8.heap.size := ⟨_, rfl⟩
        have XB8 := Lib.hid (by rw [hB8, hW8]; exact BoxIs.new w8 Y 24 : BoxIs B8 Y W8)
        have ZW8 := Lib.hid hW8
        have HEB8 := Lib.hid hB8
        clear hW8 hB8
        replace XT := Lib.hid (XT.out.below hI)
        replace XO := Lib.hid (XO.out.below hI)
        replace P1 := Lib.hid (P1.out.below hI)
        replace SC := Lib.hid (SC.out.below hI)
        replace HX := Lib.hid (HX.out.below hI)
        replace HY := Lib.hid (HY.out.below hI)
        replace XB7 := Lib.hid (XB7.out.below hI)
        replace BW := Lib.hid (BW.out.trans (hI.mono BW.out.size))
        clear hI
        rw [← ZW8.out, ← HEB8.out]
        obtain ⟨al, hal⟩ : ∃ al : Bool, al = ((F == 0) && ((G == 0) && sameB X Y)) := ⟨_, rfl⟩
        have AL := Lib.hid hal
        clear hal
        go_cut [18] from 92 to 103 (fun s18 wx => s18 = .bool al ∧ Hid (Below W8.heap.size W8 wx))
        case first =>
          rcases HX.out with ⟨-, rfl, rfl⟩ | ⟨-, rfl, hx3, hx4⟩
          · have R : Hid (al = false) := Lib.hid (by rw [AL.out]; rfl)
            go_wp2
            go_meet
            exact ⟨by rw [R.out], Lib.hid (Below.refl _ _)⟩
          · rcases HY.out with ⟨-, rfl, rfl⟩ | ⟨-, rfl, hy3, hy4⟩
            · have R : Hid (al = false) := Lib.hid (by rw [AL.out]; simp)
              go_wp2
              go_meet
              exact ⟨by rw [R.out], Lib.hid (Below.refl _ _)⟩
            · have R : Hid (al = sameB X Y) := Lib.hid (by rw [AL.out]; simp)
              have HXY := Lib.hid (And.intro hx3 (And.intro hx4 (And.intro hy3 hy4)))
              clear hx3 hx4 hy3 hy4
              have c0 := XB7.out.c0
              have c1 := XB7.out.c1
              have c2 := XB7.out.c2
              have c3 := XB7.out.c3
              have d0 := XB8.out.c0
              have d1 := XB8.out.c1
              have d2 := XB8.out.c2
              have d3 := XB8.out.c3
              go_wp2_with fail
              refine (same_any HXY.out.1.ok HXY.out.2.2.1.ok HXY.out.1.len HXY.out.2.2.1.len W8 HXY.out.2.1 HXY.out.2.2.2).mono ?_
              rintro e w9 ⟨rfl, hI⟩
              go_wp2
              go_meet
              exact ⟨by rw [R.out], Lib.hid hI⟩
        case rest =>
          obtain ⟨rfl, BC⟩ := hcut
          have FW : Hid (al = true → ∃ θ, Mg θ σc ∧ o1 ≠ .no ∧ ∀ ρ c r, o1 = .ok ρ c r → Sat θ ρ) := Lib.hid (fun h => by
            rw [AL.out] at h
            simp only [Bool.and_eq_true, beq_iff_eq] at h
            obtain ⟨h1, h2, h3⟩ := h
            rcases HX.out with ⟨-, -, h4⟩ | ⟨-, -, hx3, -⟩
            · rw [h1] at h4; cases h4
            · rcases HY.out with ⟨-, -, h4⟩ | ⟨-, -, hy3, -⟩
              · rw [h2] at h4; cases h4
              · rw [E1.out]
                exact most_fwd NA.out NB.out CC.out hx3 hy3 (sameB_is h3))
          clear XB7 XB8 AL HX HY ZW7 ZW8 HEB7 HEB8
          replace XT := Lib.hid (XT.out.below BC.out)
          replace XO := Lib.hid (XO.out.below BC.out)
          replace P1 := Lib.hid (P1.out.below BC.out)
          replace SC := Lib.hid (SC.out.below BC.out)
          replace BW := Lib.hid (BW.out.trans (BC.out.mono BW.out.size))
          clear BC
          cases o1 with
          | full =>
            simp only [okU, gU]
            go_wp2_with fail
            refine (wakes4_any _).mono ?_
            rintro e we ⟨rfl, hB⟩
            replace BW := Lib.hid (BW.out.trans (hB.mono BW.out.size))
            clear hB
            go_wp2
            go_ret
            exact ⟨rfl, BW.out⟩
          | no =>
            simp only [okU, gU]
            have ha0 : al = false := by
              cases al with
              | false => rfl
              | true =>
                obtain ⟨_, _, h, _⟩ := FW.out rfl
                exact absurd rfl h
            subst ha0
            go_wp2_with fail
            refine (wakes4_any _).mono ?_
            rintro e we ⟨rfl, hB⟩
            replace BW := Lib.hid (BW.out.trans (hB.mono BW.out.size))
            clear hB
            go_wp2
            go_ret
            exact ⟨rfl, BW.out⟩
          | ok ρ1 n1 r1 =>
            simp only [okU, gU]
            obtain ⟨Ss, σs, hS1, hst1, hsub1⟩ := P1.out
            obtain ⟨hcs, θu, hmu, heu⟩ := un_cand NA.out NB.out E1.out.symm hst1
            have CS := Lib.hid hcs
            have MU := Lib.hid (And.intro hmu heu)
            have SS := Lib.hid hsub1
            have FV : Hid (al = true → ∃ θ, Mg θ σc ∧ Sat θ σs) := Lib.hid (fun h => by
              obtain ⟨θ, h1, _, h3⟩ := FW.out h
              have h4 := h3 ρ1 n1 r1 rfl
              refine ⟨θ, h1, fun v x hx => ?_⟩
              obtain ⟨t, g1, g2⟩ := hst1.yes v x hx
              rw [h4 v t g1, ev_twin θ g2])
            rw [hS1]
            clear hS1 hst1 hsub1 hcs hmu heu P1 FW
            have c0 := XT.out.c0
            have c1 := XT.out.c1
            have c2 := XT.out.c2
            have c3 := XT.out.c3
            go_wp2_with fail
            refine (apply_any Ss σs n1 wc SS.out a OKa.out (ATa.out.below BW.out) hsa).mono ?_
            rintro e w10 ⟨hA, hI⟩
            obtain ⟨X10, F10, rfl, hform⟩ := hA.form
            have HX := Lib.hid hform
            clear hA hform
            replace XT := Lib.hid (XT.out.below hI)
            replace XO := Lib.hid (XO.out.below hI)
            replace SC := Lib.hid (SC.out.below hI)
            replace SS := Lib.hid (SS.out.below hI)
            replace BW := Lib.hid (BW.out.trans (hI.mono BW.out.size))
            clear hI
            clear c0 c1 c2 c3
            go_upto_region 20 with fail
            obtain ⟨W10, hW10⟩ : ∃ W, W = w10.alloc (.cells #[.int .u8 X10.k, .string X10.s, .int .i64 X10.n, .slice X10.p X10.kids.len X10.c] 24) := ⟨_, rfl⟩
            have hI : Below w10.heap.size w10 W10 := by rw [hW10]; exact (Below.refl _ _).alloc (Nat.le_refl _) _
            obtain ⟨B10, hB10⟩ : ∃ b, b = w10.heap.size := ⟨_, rfl⟩
            have XB10 := Lib.hid (by rw [hB10, hW10]; exact BoxIs.new w10 X10 24 : BoxIs B10 X10 W10)
            have ZW10 := Lib.hid hW10
            have HEB10 := Lib.hid hB10
            clear hW10 hB10
            replace XT := Lib.hid (XT.out.below hI)
            replace XO := Lib.hid (XO.out.below hI)
            replace SC := Lib.hid (SC.out.below hI)
            replace SS := Lib.hid (SS.out.below hI)
            replace HX := Lib.hid (HX.out.below hI)
            replace BW := Lib.hid (BW.out.trans (hI.mono BW.out.size))
            clear hI
            rw [← ZW10.out, ← HEB10.out]
            have d0 := XO.out.c0
            have d1 := XO.out.c1
            have d2 := XO.out.c2
            have d3 := XO.out.c3
            go_wp2_with fail
            refine (apply_any Ss σs n1 W10 SS.out b OKb.out (ATb.out.below BW.out) hsb).mono ?_
            rintro e w11 ⟨hA, hI⟩
            obtain ⟨X11, F11, rfl, hform⟩ := hA.form
            have HY := Lib.hid hform
            clear hA hform
            replace XT := Lib.hid (XT.out.below hI)
            replace XO := Lib.hid (XO.out.below hI)
            replace SC := Lib.hid (SC.out.below hI)
            replace SS := Lib.hid (SS.out.below hI)
            replace HX := Lib.hid (HX.out.below hI)
            replace XB10 := Lib.hid (XB10.out.below hI)
            replace BW := Lib.hid (BW.out.trans (hI.mono BW.out.size))
            clear hI
            clear d0 d1 d2 d3
            go_upto_region 21 with fail
            obtain ⟨W11, hW11⟩ : ∃ W, W = w11.alloc (.cells #[.int .u8 X11.k, .string X11.s, .int .i64 X11.n, .slice X11.p X11.kids.len X11.c] 24) := ⟨_, rfl⟩
            have hI : Below w11.heap.size w11 W11 := by rw [hW11]; exact (Below.refl _ _).alloc (Nat.le_refl _) _
            obtain ⟨B11, hB11⟩ : ∃ b, b = w11.heap.size := ⟨_, rfl⟩
            have XB11 := Lib.hid (by rw [hB11, hW11]; exact BoxIs.new w11 X11 24 : BoxIs B11 X11 W11)
            have ZW11 := Lib.hid hW11
            have HEB11 := Lib.hid hB11
            clear hW11 hB11
            replace XT := Lib.hid (XT.out.below hI)
            replace XO := Lib.hid (XO.out.below hI)
            replace SC := Lib.hid (SC.out.below hI)
            replace SS := Lib.hid (SS.out.below hI)
            replace HX := Lib.hid (HX.out.below hI)
            replace HY := Lib.hid (HY.out.below hI)
            replace XB10 := Lib.hid (XB10.out.below hI)
            replace BW := Lib.hid (BW.out.trans (hI.mono BW.out.size))
            clear hI
            rw [← ZW11.out, ← HEB11.out]
            go_cut [147] from 129 to 148 (fun s147 wx => s147 = .bool false ∧ Hid (Below W11.heap.size W11 wx))
            case first =>
              rcases most_both NA.out NB.out CS.out MU.out.1 MU.out.2 HX.out HY.out with ⟨rfl, rfl⟩ | ⟨rfl, rfl, hR⟩
              · go_wp2
                go_meet
                exact ⟨rfl, Lib.hid (Below.refl _ _)⟩
              · have RR := Lib.hid hR
                clear hR
                have c0 := XB10.out.c0
                have c1 := XB10.out.c1
                have c2 := XB10.out.c2
                have c3 := XB10.out.c3
                have d0 := XB11.out.c0
                have d1 := XB11.out.c1
                have d2 := XB11.out.c2
                have d3 := XB11.out.c3
                go_wp2_with fail
                refine (same_twins RR.out.1 RR.out.2.1 RR.out.2.2.1 RR.out.2.2.2.1 W11 RR.out.2.2.2.2.1 RR.out.2.2.2.2.2).mono ?_
                rintro e w12 ⟨rfl, hI⟩
                go_wp2
                go_meet
                exact ⟨rfl, Lib.hid hI⟩
            case rest =>
              obtain ⟨rfl, BC⟩ := hcut
              clear XB10 XB11 HX HY ZW10 ZW11 HEB10 HEB11 MU
              replace XT := Lib.hid (XT.out.below BC.out)
              replace XO := Lib.hid (XO.out.below BC.out)
              replace SC := Lib.hid (SC.out.below BC.out)
              replace SS := Lib.hid (SS.out.below BC.out)
              replace BW := Lib.hid (BW.out.trans (BC.out.mono BW.out.size))
              clear BC
              have c0 := XT.out.c0
              have c1 := XT.out.c1
              have c2 := XT.out.c2
              have c3 := XT.out.c3
              have d0 := XO.out.c0
              have d1 := XO.out.c1
              have d2 := XO.out.c2
              have d3 := XO.out.c3
              go_wp2_with fail
              obtain ⟨W13, hW13⟩ : ∃ W, W = wc.alloc (.cells #[.int .u8 a.k, .string a.s, .int .i64 a.n, .slice a.p a.kids.len a.c, .int .u8 b.k, .string b.s, .int .i64 b.n, .slice b.p b.kids.len b.c] 24) := ⟨_, rfl⟩
              rw [← hW13]
              obtain ⟨hI, hat2⟩ := boxTwo hW13 (ATa.out.below BW.out) (ATb.out.below BW.out)
              have OK2 : Ts.ok (.cons a.k a.s a.n a.p a.c a.kids (.cons b.k b.s b.n b.p b.c b.kids .nil)) := ⟨OKa.out.1, OKa.out.2.1, OKa.out.2.2.1, OKa.out.2.2.2.1, OKa.out.2.2.2.2.1, OKa.out.2.2.2.2.2.1, OKb.out⟩
              refine (tvars_any (.cons a.k a.s a.n a.p a.c a.kids (.cons b.k b.s b.n b.p b.c b.kids .nil)) (by simp only [Ts.size]; omega) OK2 W13 _ 2 (by simp [Ts.len]) hat2).mono ?_
              rintro e w14 ⟨v14, rfl, hrow, hJ⟩
              replace hI := hI.trans (hJ.mono hI.size)
              clear hJ hW13 hat2
              obtain ⟨p14, cp, rfl, hin, hcp⟩ := ints_of_row hrow
              obtain ⟨zs, hzs⟩ : ∃ zs, zs = numsOf ((nodesOf (.cons a.k a.s a.n a.p a.c a.kids (.cons b.k b.s b.n b.p b.c b.kids .nil))).map Ts.mark) := ⟨_, rfl⟩
              rw [← hzs] at hin hcp ⊢
              have IN := Lib.hid hin
              have ZR : Hid (∀ z ∈ zs, -9223372036854775808 ≤ z ∧ z ≤ 9223372036854775807) := Lib.hid (fun z hzm => by
                rw [hzs, numsOf_mem] at hzm
                obtain ⟨x, hx, _, h2⟩ := hzm
                obtain ⟨y, hy, rfl⟩ := List.mem_map.1 hx
                rw [h2]
                exact nodes_wf _ OK2 y hy)
              clear hrow hin hzs OK2
              clear c0 c1 c2 c3
              clear d0 d1 d2 d3
              replace SC := Lib.hid (SC.out.below hI)
              replace SS := Lib.hid (SS.out.below hI)
              replace BW := Lib.hid (BW.out.trans (hI.mono BW.out.size))
              clear hI
              have hzl : zs.length ≤ 9223372036854775807 := by omega
              go_wp2_with fail
              go_loopw [24] (fun s24 wr => ∃ j : Nat, s24 = .int .i64 j ∧ j ≤ zs.length ∧ Hid (Below w14.heap.size w14 wr)) (fun i _ => zs.length - (intOf i).toNat)
              case atStart => exact ⟨0, rfl, Nat.zero_le _, Lib.hid (Below.refl _ _)⟩
              case round =>
                obtain ⟨j, rfl, hjl, BR⟩ := hrel
                by_cases hlt : j < zs.length
                · cases al with
                  | false =>
                    replace BW := Lib.hid (BW.out.trans (BR.out.mono BW.out.size))
                    clear BR
                    go_wp2_with fail
                    refine (wakes4_any _).mono ?_
                    rintro e we ⟨rfl, hB⟩
                    replace BW := Lib.hid (BW.out.trans (hB.mono BW.out.size))
                    clear hB
                    go_wp2
                    go_ret
                    exact ⟨rfl, BW.out⟩

                  | true =>
                    obtain ⟨θ, hmc, hss⟩ := FV.out rfl
                    have TH := Lib.hid (And.intro hmc hss)
                    clear hmc hss
                    obtain ⟨bz, oz, hpz, hcell⟩ := IN.out
                    have hc9 := hcell j hlt
                    replace hpz := some_of_ints hpz hlt
                    subst hpz
                    obtain ⟨z, hz⟩ : ∃ z, z = zs[j] := ⟨_, rfl⟩
                    rw [← hz] at hc9
                    have ZZ := Lib.hid (ZR.out z (by rw [hz]; exact List.getElem_mem hlt))
                    have hb10 : bz < w14.heap.size := World.block_lt_of_cell? _ _ hc9
                    have CZ := Lib.hid hc9
                    have c9 := ((stays BR.out).1 _ _ hb10).trans hc9
                    have OKZ : Hid (Nd.ok ⟨1, ⟨#[]⟩, z, none, 0, .nil⟩) := Lib.hid (nd_ok (by omega) (by simp [ByteArray.size]) ZZ.out (by simp [Ts.len]) (fun _ => rfl) trivial)
                    have NZ : Hid (nameN ⟨1, ⟨#[]⟩, z, none, 0, .nil⟩) := Lib.hid ⟨fun _ => ⟨rfl, rfl⟩, trivial⟩
                    replace SC := Lib.hid (SC.out.below BR.out)
                    replace SS := Lib.hid (SS.out.below BR.out)
                    clear hcell hc9 hz
                    go_wp2_with fail
                    refine (V_any _ _).mono ?_
                    rintro e wa ⟨rfl, hI⟩
                    unfold tv
                    replace SC := Lib.hid (SC.out.below hI)
                    replace SS := Lib.hid (SS.out.below hI)
                    replace BR := Lib.hid (BR.out.trans (hI.mono BR.out.size))
                    clear hI
                    go_wp2_with fail
                    refine (apply_any Ss σs n1 wa SS.out ⟨1, ⟨#[]⟩, z, none, 0, .nil⟩ OKZ.out ⟨0, 0, .inl rfl, trivial⟩ (by simp [Ts.size])).mono ?_
                    rintro e wb ⟨hA, hI⟩
                    obtain ⟨U, M, rfl, hform⟩ := hA.form
                    have HU := Lib.hid hform
                    clear hA hform
                    replace SC := Lib.hid (SC.out.below hI)
                    replace SS := Lib.hid (SS.out.below hI)
                    replace BR := Lib.hid (BR.out.trans (hI.mono BR.out.size))
                    clear hI
                    clear c9
                    go_upto_region 28 with fail
                    obtain ⟨WB, hWB⟩ : ∃ W, W = wb.alloc (.cells #[.int .u8 U.k, .string U.s, .int .i64 U.n, .slice U.p U.kids.len U.c] 24) := ⟨_, rfl⟩
                    have hI : Below wb.heap.size wb WB := by rw [hWB]; exact (Below.refl _ _).alloc (Nat.le_refl _) _
                    obtain ⟨BU, hBU⟩ : ∃ b, b = wb.heap.size := ⟨_, rfl⟩
                    have XBU := Lib.hid (by rw [hBU, hWB]; exact BoxIs.new wb U 24 : BoxIs BU U WB)
                    have ZWB := Lib.hid hWB
                    have HEBU := Lib.hid hBU
                    clear hWB hBU
                    replace SC := Lib.hid (SC.out.below hI)
                    replace SS := Lib.hid (SS.out.below hI)
                    replace HU := Lib.hid (HU.out.below hI)
                    replace BR := Lib.hid (BR.out.trans (hI.mono BR.out.size))
                    clear hI
                    rw [← ZWB.out, ← HEBU.out]
                    rcases HU.out with ⟨-, -, hM⟩ | ⟨-, hM, hu3, hu4⟩
                    · subst hM
                      go_wp2
                      go_roundw
                      case rel => exact ⟨j + 1, by go_num, by omega, BR⟩
                      case measure => simp [intOf]; omega
                    · subst hM
                      have UK := Lib.hid (hu3.nd_ok (SS.out.wk_ok OKZ.out ⟨0, 0, .inl rfl, trivial⟩ (by simp [Ts.size])))
                      have UA := Lib.hid hu4
                      have UP := Lib.hid hu3
                      have hus : U.kids.size ≤ 5000 := by have := hu3.sz; omega
                      clear hu3 hu4 HU
                      have c0 := XBU.out.c0
                      have c1 := XBU.out.c1
                      have c2 := XBU.out.c2
                      have c3 := XBU.out.c3
                      go_wp2_with fail
                      refine (apply_any Sc σc N WB SC.out U UK.out UA.out hus).mono ?_
                      rintro e wd ⟨hA, hI⟩
                      obtain ⟨V, G1, rfl, hform⟩ := hA.form
                      have HV := Lib.hid hform
                      clear hA hform
                      replace SC := Lib.hid (SC.out.below hI)
                      replace SS := Lib.hid (SS.out.below hI)
                      replace BR := Lib.hid (BR.out.trans (hI.mono BR.out.size))
                      clear hI
                      clear c0 c1 c2 c3
                      go_upto_region 30 with fail
                      obtain ⟨WD, hWD⟩ : ∃ W, W = wd.alloc (.cells #[.int .u8 V.k, .string V.s, .int .i64 V.n, .slice V.p V.kids.len V.c] 24) := ⟨_, rfl⟩
                      have hI : Below wd.heap.size wd WD := by rw [hWD]; exact (Below.refl _ _).alloc (Nat.le_refl _) _
                      obtain ⟨BV, hBV⟩ : ∃ b, b = wd.heap.size := ⟨_, rfl⟩
                      have XBV := Lib.hid (by rw [hBV, hWD]; exact BoxIs.new wd V 24 : BoxIs BV V WD)
                      have ZWD := Lib.hid hWD
                      have HEBV := Lib.hid hBV
                      clear hWD hBV
                      replace SC := Lib.hid (SC.out.below hI)
                      replace SS := Lib.hid (SS.out.below hI)
                      replace HV := Lib.hid (HV.out.below hI)
                      replace BR := Lib.hid (BR.out.trans (hI.mono BR.out.size))
                      clear hI
                      rw [← ZWD.out, ← HEBV.out]
                      have c9 := ((stays BR.out).1 _ _ hb10).trans CZ.out
                      go_wp2_with fail
                      refine (V_any _ _).mono ?_
                      rintro e we ⟨rfl, hI⟩
                      unfold tv
                      replace SC := Lib.hid (SC.out.below hI)
                      replace SS := Lib.hid (SS.out.below hI)
                      replace HV := Lib.hid (HV.out.below hI)
                      replace XBV := Lib.hid (XBV.out.below hI)
                      replace BR := Lib.hid (BR.out.trans (hI.mono BR.out.size))
                      clear hI
                      go_wp2_with fail
                      refine (apply_any Sc σc N we SC.out ⟨1, ⟨#[]⟩, z, none, 0, .nil⟩ OKZ.out ⟨0, 0, .inl rfl, trivial⟩ (by simp [Ts.size])).mono ?_
                      rintro e wf ⟨hA, hI⟩
                      obtain ⟨V2, G2, rfl, hform⟩ := hA.form
                      have HV2 := Lib.hid hform
                      clear hA hform
                      replace SC := Lib.hid (SC.out.below hI)
                      replace SS := Lib.hid (SS.out.below hI)
                      replace HV := Lib.hid (HV.out.below hI)
                      replace XBV := Lib.hid (XBV.out.below hI)
                      replace BR := Lib.hid (BR.out.trans (hI.mono BR.out.size))
                      clear hI
                      clear c9
                      go_upto_region 31 with fail
                      obtain ⟨WF, hWF⟩ : ∃ W, W = wf.alloc (.cells #[.int .u8 V2.k, .string V2.s, .int .i64 V2.n, .slice V2.p V2.kids.len V2.c] 24) := ⟨_, rfl⟩
                      have hI : Below wf.heap.size wf WF := by rw [hWF]; exact (Below.refl _ _).alloc (Nat.le_refl _) _
                      obtain ⟨BV2, hBV2⟩ : ∃ b, b = wf.heap.size := ⟨_, rfl⟩
                      have XBV2 := Lib.hid (by rw [hBV2, hWF]; exact BoxIs.new wf V2 24 : BoxIs BV2 V2 WF)
                      have ZWF := Lib.hid hWF
                      have HEBV2 := Lib.hid hBV2
                      clear hWF hBV2
                      replace SC := Lib.hid (SC.out.below hI)
                      replace SS := Lib.hid (SS.out.below hI)
                      replace HV := Lib.hid (HV.out.below hI)
                      replace XBV := Lib.hid (XBV.out.below hI)
                      replace HV2 := Lib.hid (HV2.out.below hI)
                      replace BR := Lib.hid (BR.out.trans (hI.mono BR.out.size))
                      clear hI
                      rw [← ZWF.out, ← HEBV2.out]
                      go_cut [200] from 189 to 200 (fun s200 wx => s200 = .bool false ∧ Hid (Below WF.heap.size WF wx))
                      case first =>
                        rcases HV.out with ⟨-, -, hG⟩ | ⟨-, hG, hv3, hv4⟩
                        · subst hG
                          go_wp2
                          go_meet
                          exact ⟨rfl, Lib.hid (Below.refl _ _)⟩
                        · subst hG
                          rcases HV2.out with ⟨-, -, hG2⟩ | ⟨-, hG2, hx3, hx4⟩
                          · subst hG2
                            go_wp2
                            go_meet
                            exact ⟨rfl, Lib.hid (Below.refl _ _)⟩
                          · subst hG2
                            have htw := most_var CS.out CC.out NZ.out TH.out.1 TH.out.2 UP.out hv3 hx3
                            have RR := Lib.hid (And.intro htw (And.intro hv3 (And.intro hx3 (And.intro hv4 hx4))))
                            clear htw hv3 hv4 hx3 hx4
                            have c0 := XBV.out.c0
                            have c1 := XBV.out.c1
                            have c2 := XBV.out.c2
                            have c3 := XBV.out.c3
                            have d0 := XBV2.out.c0
                            have d1 := XBV2.out.c1
                            have d2 := XBV2.out.c2
                            have d3 := XBV2.out.c3
                            go_wp2_with fail
                            refine (same_twins RR.out.1 RR.out.2.1.ok RR.out.2.2.1.ok RR.out.2.1.len WF RR.out.2.2.2.1 RR.out.2.2.2.2).mono ?_
                            rintro e w12 ⟨rfl, hI⟩
                            go_wp2
                            go_meet
                            exact ⟨rfl, Lib.hid hI⟩
                      case rest =>
                        obtain ⟨rfl, BC⟩ := hcut
                        replace BR := Lib.hid (BR.out.trans (BC.out.mono BR.out.size))
                        clear BC
                        go_wp2
                        go_roundw
                        case rel =>
                          first
                          | exact ⟨j + 1, by go_num, by omega, BR⟩
                          | (repeat apply Exists.intro
                             refine ⟨?_, rfl⟩
                             exact ⟨j + 1, by go_num, by omega, BR⟩)
                        case measure => simp [intOf]; omega
                · have hje : j = zs.length := by omega
                  subst hje
                  replace BW := Lib.hid (BW.out.trans (BR.out.mono BW.out.size))
                  clear BR
                  go_wp2_with fail
                  refine (wakes4_any _).mono ?_
                  rintro e we ⟨rfl, hB⟩
                  replace BW := Lib.hid (BW.out.trans (hB.mono BW.out.size))
                  clear hB
                  go_wp2
                  go_ret
                  exact ⟨rfl, BW.out⟩


end Go.Proofs.Ytflomdnjabgnaaa
