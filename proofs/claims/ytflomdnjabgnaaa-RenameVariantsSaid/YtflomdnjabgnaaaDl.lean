import Derived.Test.YtflomdnjabgnaaaDd
import Derived.Test.YtflomdnjabgnaaaDi
/-
  The law UnifyApart, walked. (Written by gen_dl.py.)
-/
namespace Go.Proofs.Ytflomdnjabgnaaa
open Go.RowKit

theorem sm_of {M : Int} : ∀ {ts : Ts}, shapeL ts = true → (∀ x ∈ (nodesOf ts).map Ts.mark, (x.1 == 1) = true → x.2 < M) → smT M ts
  | .nil, _, _ => trivial
  | .cons k s n p c kids rest, hs, hb => by
    simp only [shapeL, Bool.and_eq_true] at hs
    refine ⟨fun hk => ?_, sm_of hs.1.1 (fun x hx => hb x (by simp only [nodesOf, List.map_cons, List.map_append]; exact List.mem_cons_of_mem _ (List.mem_append_left _ hx))), sm_of hs.2 (fun x hx => hb x (by simp only [nodesOf, List.map_cons, List.map_append]; exact List.mem_cons_of_mem _ (List.mem_append_right _ hx)))⟩
    obtain ⟨h1, h2⟩ := headB_var hs.1.2 hk
    exact ⟨h1, hb (k, n) (by simp [nodesOf, Ts.mark]) hk, Ts.len_zero h2⟩
theorem sm_nd {M : Int} {a : Nd} (h : goodB 64 a.k a.s a.n a.kids = true) (hb : ∀ z ∈ numsOf ((nodesOf (.cons a.k a.s a.n a.p a.c a.kids .nil)).map Ts.mark), z < M) : smN M a := by
  have h1 : shapeL a.kids = true ∧ headB a.k a.s a.n a.kids.len = true := by
    unfold goodB at h
    simp only [Bool.and_eq_true] at h
    exact h.2
  have hs : smT M (.cons a.k a.s a.n a.p a.c a.kids .nil) := sm_of (by simp only [shapeL, h1.1, h1.2, Bool.and_self]) (fun x hx hk => hb x.2 ((numsOf_mem _ _).2 ⟨x, hx, hk, rfl⟩))
  exact ⟨hs.1, hs.2.1⟩

theorem apart_un {a b : Nd} {d : Int} (hd : 100 ≤ d) (hs : smN 100 a) (hb : ShN d a b) (hsz : a.kids.size ≤ 1000) : ∃ ρ r, un 4096 0 Sb.none [(a, b)] = .ok ρ (numsOf ((nodesOf (.cons a.k a.s a.n a.p a.c a.kids .nil)).map Ts.mark)).length r := by
  obtain ⟨ρ, c', r', h1, h2⟩ := un_shift (M := 100) ⟨hd, by omega⟩ 4096 (c := 0) (σ := Sb.none) (acc := []) (l := [(a, b)]) ⟨(fun v hv => by simp at hv), (fun v _ => rfl), (fun v hv => by simp at hv)⟩ (fun p hp => by simp only [List.mem_singleton] at hp; subst hp; exact ⟨hb, hs⟩) (by simp only [tot]; omega)
  refine ⟨ρ, r', ?_⟩
  rw [h1]
  have e : (numsOf ((nodesOf (.cons a.k a.s a.n a.p a.c a.kids .nil)).map Ts.mark)).length = c' := by
    simp only [mks, List.append_nil, List.length_nil, Nat.add_zero, Nat.zero_add] at h2
    rw [h2]
    simp only [numsOf, nodesOf, List.append_nil, List.map_cons]
    rfl
  rw [e]

theorem own_no {a : Nd} {q : Option Addr} {d : Nat} {us : Ts} (h : Ts.twin us (.cons a.k a.s a.n a.p a.c a.kids .nil)) (hsz : a.kids.size ≤ 1000) : un 4096 0 Sb.none [(a, ⟨4, ⟨#[115]⟩, 0, q, d, us⟩)] = .no := by
  have h1 := un_own (ByteArray.toList ⟨#[115]⟩) a.kids.size (x := a) (y := ⟨4, ⟨#[115]⟩, 0, none, 0, (.cons a.k a.s a.n a.p a.c a.kids .nil)⟩) (Nat.le_refl _) rfl rfl rfl rfl 4096 0 (by omega)
  have h2 := un_tw 4096 0 (⟨fun u _ => rfl, fun u y hy => by cases hy⟩ : STw Sb.none Sb.none) Ends.none (l := [(a, ⟨4, ⟨#[115]⟩, 0, q, d, us⟩)]) (m := [(a, ⟨4, ⟨#[115]⟩, 0, none, 0, (.cons a.k a.s a.n a.p a.c a.kids .nil)⟩)]) (.cons (Nd.twin_refl _) ⟨rfl, rfl, rfl, h⟩ .nil)
  rw [h1] at h2
  cases e : un 4096 0 Sb.none [(a, ⟨4, ⟨#[115]⟩, 0, q, d, us⟩)] with
  | full => rw [e] at h2; exact h2.elim
  | no => rfl
  | ok => rw [e] at h2; exact h2.elim

set_option maxRecDepth 100000 in
set_option maxHeartbeats 16000000 in
theorem unifyApart_true (a : Nd) (d : Int) (w : World) (hoka : a.ok) (hata : Ts.At w a.p a.kids) (hd : -9223372036854775808 ≤ d ∧ d ≤ 9223372036854775807) :
    Calls Try.prog 10 #[.agg #[.int .u8 a.k, .string a.s, .int .i64 a.n, .slice a.p a.kids.len a.c], .int .i64 d] w fun e w' => e = .returned (.bool true) ∧ Below w.heap.size w w' := by
  have OKa := Lib.hid hoka
  have ATa := Lib.hid hata
  clear hoka hata
  obtain ⟨g, hg⟩ : ∃ g, g = decide (1000 < manyP (.cons a.k a.s a.n a.p a.c a.kids .nil) 0) := ⟨_, rfl⟩
  have GG := Lib.hid hg
  obtain ⟨ga, hga⟩ : ∃ g, g = goodB 64 a.k a.s a.n a.kids := ⟨_, rfl⟩
  have GA := Lib.hid hga
  clear hg hga
  go_enter Try.func10, Try.ntmps10
  go_upto_region 1 with fail
  obtain ⟨W0, hW0⟩ : ∃ W0, W0 = w.alloc (.cells #[.int .u8 a.k, .string a.s, .int .i64 a.n, .slice a.p a.kids.len a.c] 24) := ⟨_, rfl⟩
  rw [← hW0]
  have hB0 : Below w.heap.size w W0 := by rw [hW0]; exact (Below.refl _ _).alloc (Nat.le_refl _) _
  have hXt : BoxIs w.heap.size a W0 := by rw [hW0]; exact BoxIs.new w a _
  have BW := Lib.hid hB0
  have XT := Lib.hid hXt
  clear hW0 hB0 hXt
  have c0 := XT.out.c0
  have c1 := XT.out.c1
  have c2 := XT.out.c2
  have c3 := XT.out.c3
  go_wp2_with fail
  obtain ⟨W1, hW1⟩ : ∃ W, W = W0.alloc (.cells #[.int .u8 a.k, .string a.s, .int .i64 a.n, .slice a.p a.kids.len a.c] 24) := ⟨_, rfl⟩
  rw [← hW1]
  obtain ⟨hI, hat1⟩ := boxOne hW1 (ATa.out.below BW.out)
  clear c0 c1 c2 c3
  replace XT := Lib.hid (XT.out.below hI)
  replace BW := Lib.hid (BW.out.trans (hI.mono BW.out.size))
  clear hI
  refine (great_is (.cons a.k a.s a.n a.p a.c a.kids .nil) OKa.out g GG.out.symm W1 _ 1 hat1 (by simp [Ts.len])).mono ?_
  rintro e w2 ⟨rfl, hI⟩
  clear hat1 hW1
  replace XT := Lib.hid (XT.out.below hI)
  replace BW := Lib.hid (BW.out.trans (hI.mono BW.out.size))
  clear hI
  cases g with
  | true =>
    go_wp2_with fail
    refine (wakes4_any _).mono ?_
    rintro e we ⟨rfl, hB⟩
    replace BW := Lib.hid (BW.out.trans (hB.mono BW.out.size))
    clear hB
    go_wp2
    go_ret
    exact ⟨rfl, BW.out⟩

  | false =>
  have hsz0 := small_of_many GG.out.symm
  simp only [Ts.size] at hsz0
  have hsa2 : a.kids.size ≤ 1000 := by omega
  have hsa : a.kids.size ≤ 5000 := by omega
  by_cases hd1 : d < 100
  · go_wp2_with fail
    refine (wakes4_any _).mono ?_
    rintro e we ⟨rfl, hB⟩
    replace BW := Lib.hid (BW.out.trans (hB.mono BW.out.size))
    clear hB
    go_wp2
    go_ret
    exact ⟨rfl, BW.out⟩
  by_cases hd2 : d > 1099511627776
  · go_wp2_with fail
    refine (wakes4_any _).mono ?_
    rintro e we ⟨rfl, hB⟩
    replace BW := Lib.hid (BW.out.trans (hB.mono BW.out.size))
    clear hB
    go_wp2
    go_ret
    exact ⟨rfl, BW.out⟩
  have c0 := XT.out.c0
  have c1 := XT.out.c1
  have c2 := XT.out.c2
  have c3 := XT.out.c3
  go_wp2_with fail
  refine (rGood_any a.kids (by omega) OKa.out.2.2.2.2.2.1 a.k a.s a.n w2 a.p a.c OKa.out.2.1 (ATa.out.below BW.out)).mono ?_
  rintro e w3 ⟨rfl, hI⟩
  clear c0 c1 c2 c3
  replace XT := Lib.hid (XT.out.below hI)
  replace BW := Lib.hid (BW.out.trans (hI.mono BW.out.size))
  clear hI
  rw [← GA.out]
  cases ga with
  | false =>
    go_wp2_with fail
    refine (wakes4_any _).mono ?_
    rintro e we ⟨rfl, hB⟩
    replace BW := Lib.hid (BW.out.trans (hB.mono BW.out.size))
    clear hB
    go_wp2
    go_ret
    exact ⟨rfl, BW.out⟩

  | true =>
  have c0 := XT.out.c0
  have c1 := XT.out.c1
  have c2 := XT.out.c2
  have c3 := XT.out.c3
  go_wp2_with fail
  obtain ⟨W4, hW4⟩ : ∃ W, W = w3.alloc (.cells #[.int .u8 a.k, .string a.s, .int .i64 a.n, .slice a.p a.kids.len a.c] 24) := ⟨_, rfl⟩
  rw [← hW4]
  obtain ⟨hI, hat1⟩ := boxOne hW4 (ATa.out.below BW.out)
  clear c0 c1 c2 c3
  refine (tvars_any (.cons a.k a.s a.n a.p a.c a.kids .nil) (by simp only [Ts.size]; omega) OKa.out W4 _ 1 (by simp [Ts.len]) hat1).mono ?_
  rintro e w5 ⟨v5, rfl, hrow, hJ⟩
  replace hI := hI.trans (hJ.mono hI.size)
  clear hJ hW4 hat1
  obtain ⟨p5, cp, rfl, hin, hcp⟩ := ints_of_row hrow
  obtain ⟨zs, hzs⟩ : ∃ zs, zs = numsOf ((nodesOf (.cons a.k a.s a.n a.p a.c a.kids .nil)).map Ts.mark) := ⟨_, rfl⟩
  rw [← hzs] at hin hcp ⊢
  have IN := Lib.hid hin
  have ZE := Lib.hid hzs
  clear hrow hin hzs
  replace XT := Lib.hid (XT.out.below hI)
  replace BW := Lib.hid (BW.out.trans (hI.mono BW.out.size))
  clear hI
  have hzl : zs.length ≤ 9223372036854775807 := by omega
  have DD : Hid (100 ≤ d ∧ d ≤ 1099511627776) := Lib.hid (by omega)
  clear hd1 hd2
  go_wp2_with fail
  go_loopw [6] (fun s6 wr => ∃ j : Nat, s6 = .int .i64 j ∧ j ≤ zs.length ∧ Hid (∀ i z, i < j → zs[i]? = some z → z < 100) ∧ Hid (wr = w5)) (fun i _ => zs.length - (intOf i).toNat)
  case atStart => exact ⟨0, rfl, Nat.zero_le _, Lib.hid (fun i e hi _ => by omega), Lib.hid rfl⟩
  case round =>
    obtain ⟨j, rfl, hjl, GJ, EW⟩ := hrel
    have hw := EW.out
    subst hw
    by_cases hlt : j < zs.length
    · obtain ⟨bz, oz, hpz, hcell⟩ := IN.out
      have c9 := hcell j hlt
      replace hpz := some_of_ints hpz hlt
      subst hpz
      obtain ⟨z, hz⟩ : ∃ z, z = zs[j] := ⟨_, rfl⟩
      rw [← hz] at c9
      have HZ : Hid (zs[j]? = some z) := Lib.hid (by rw [hz]; exact List.getElem?_eq_getElem hlt)
      clear hcell hz
      by_cases hz1 : z ≥ 100
      · go_wp2_with fail
        refine (wakes4_any _).mono ?_
        rintro e we ⟨rfl, hB⟩
        replace BW := Lib.hid (BW.out.trans (hB.mono BW.out.size))
        clear hB
        go_wp2
        go_ret
        exact ⟨rfl, BW.out⟩
      · have GJ2 : Hid (∀ i e, i < j + 1 → zs[i]? = some e → e < 100) := Lib.hid (fun i e hi he => by
          by_cases hij : i = j
          · subst hij
            rw [HZ.out] at he
            cases he
            omega
          · exact GJ.out i e (by omega) he)
        go_wp2
        go_roundw
        case rel => exact ⟨j + 1, by go_num, by omega, GJ2, by first | exact Lib.hid rfl | exact Lib.hid trivial⟩
        case measure => simp [intOf]; omega
    · have hje : j = zs.length := by omega
      have SM : Hid (smN 100 a) := Lib.hid (sm_nd GA.out.symm (fun z hz => by
        rw [← ZE.out] at hz
        obtain ⟨i, hi⟩ := List.mem_iff_getElem?.1 hz
        exact GJ.out i z (by have := (List.getElem?_eq_some_iff.1 hi).1; omega) hi))
      subst hje
      clear EW GJ
      have c0 := XT.out.c0
      have c1 := XT.out.c1
      have c2 := XT.out.c2
      have c3 := XT.out.c3
      go_wp2_with fail
      refine (shift4_any d ⟨by have := DD.out; omega, by have := DD.out; omega⟩ (a.kids.size + 1) a (Nat.lt_succ_self _) (by omega) OKa.out SM.out wr (ATa.out.below BW.out)).mono ?_
      rintro e w6 ⟨val, rfl, hmade, hI⟩
      obtain ⟨us, q, c, rfl, hatb, htwb, hokb, hcb, hqb⟩ := hmade
      unfold tv
      obtain ⟨b, hb⟩ : ∃ b : Nd, b = ⟨(shN d a).k, (shN d a).s, (shN d a).n, q, c, us⟩ := ⟨_, rfl⟩
      have hbk : (shN d a).k = b.k := by rw [hb]
      have hbs : (shN d a).s = b.s := by rw [hb]
      have hbn : (shN d a).n = b.n := by rw [hb]
      have hbp : q = b.p := by rw [hb]
      have hbc : c = b.c := by rw [hb]
      have hbu : us = b.kids := by rw [hb]
      have SH : Hid (ShN d a b) := Lib.hid ⟨by rw [← hbk]; rfl, by rw [← hbs]; rfl, by rw [← hbn]; rfl, by rw [← hbu]; exact ShT.of_twin d htwb⟩
      have OKb : Hid b.ok := Lib.hid (by rw [hb]; exact nd_ok OKa.out.1 OKa.out.2.1 (smN_bound ⟨by have := DD.out; omega, by have := DD.out; omega⟩ SM.out OKa.out) hcb hqb hokb)
      have ATb := Lib.hid (AtP_at hatb)
      rw [hbk, hbs, hbn, hbp, hbc, hbu]
      rw [hbp, hbu] at ATb
      have hsb : b.kids.size ≤ 5000 := by
        have h1 := Ts.twin_size _ _ htwb
        rw [hbu] at h1
        have h2 : (shN d a).kids.size = a.kids.size := shT_size d a.kids
        omega
      clear hb hbk hbs hbn hbp hbc hbu hatb htwb hokb hcb hqb
      clear c0 c1 c2 c3
      replace XT := Lib.hid (XT.out.below hI)
      replace BW := Lib.hid (BW.out.trans (hI.mono BW.out.size))
      clear hI
      go_upto_region 10 with fail
      obtain ⟨W0, hW0⟩ : ∃ W, W = w6.alloc (.cells #[.int .u8 b.k, .string b.s, .int .i64 b.n, .slice b.p b.kids.len b.c] 24) := ⟨_, rfl⟩
      rw [← hW0]
      have hI : Below w6.heap.size w6 W0 := by rw [hW0]; exact (Below.refl _ _).alloc (Nat.le_refl _) _
      obtain ⟨B0, hB0⟩ : ∃ b, b = w6.heap.size := ⟨_, rfl⟩
      rw [← hB0]
      have XO := Lib.hid (by rw [hB0, hW0]; exact BoxIs.new w6 b 24 : BoxIs B0 b W0)
      clear hW0 hB0
      replace XT := Lib.hid (XT.out.below hI)
      replace ATb := Lib.hid (ATb.out.below hI)
      replace BW := Lib.hid (BW.out.trans (hI.mono BW.out.size))
      clear hI
      obtain ⟨ρ1, r1, he1⟩ := apart_un DD.out.1 SM.out SH.out hsa2
      rw [← ZE.out] at he1
      obtain ⟨o1, ho1⟩ : ∃ o, o = un 4096 0 Sb.none [(a, b)] := ⟨_, rfl⟩
      have E1 := Lib.hid ho1
      have EO : Hid (o1 = .ok ρ1 zs.length r1) := Lib.hid (ho1.trans he1)
      clear ho1 he1
      refine region_by_facts (fun W_ => Below W0.heap.size W0 W_) [fun u W => ∃ S, u = .pointer (some ⟨S, 0, none⟩) ∧ SubAt S Sb.none 0 W, fun u _ => u = .agg #[.int .u8 a.k, .string a.s, .int .i64 a.n, .slice a.p a.kids.len a.c], fun u _ => u = .agg #[.int .u8 b.k, .string b.s, .int .i64 b.n, .slice b.p b.kids.len b.c], fun u W => ∃ p, u = .tuple #[p, .bool (okU o1), .int .i64 (gU o1)] ∧ PU o1 p W, fun u W => ∃ p, u = .tuple #[p, .bool (okU o1), .int .i64 (gU o1)] ∧ PU o1 p W, PU o1, fun u _ => u = .bool (okU o1), fun u _ => u = .int .i64 (gU o1), PU o1, fun u _ => u = .bool (okU o1), fun u _ => u = .int .i64 (gU o1)]
        ⟨(by rintro v_ w_ x_ ⟨S, h1, h2⟩ hB; exact ⟨S, h1, h2.below hB⟩), .eq _, .eq _, (by rintro v_ w_ x_ ⟨p, h1, h2⟩ hB; exact ⟨p, h1, h2.below hB⟩), (by rintro v_ w_ x_ ⟨p, h1, h2⟩ hB; exact ⟨p, h1, h2.below hB⟩), (fun v_ w_ x_ h hB => PU.below h hB), .eq _, .eq _, (fun v_ w_ x_ h hB => PU.below h hB), .eq _, .eq _, trivial⟩ (by kernel_rfl) (by kernel_rfl) (by kernel_rfl) ?h0a ?stepsa ?donea
      case h0a => exact (Below.refl _ _).drew
      case stepsa =>
        refine ⟨?_, ?_, ?_, ?_, ?_, ?_, ?_, ?_, ?_, ?_, ?_, trivial⟩
        · intro g_ W_ hI hd K hK
          simp only [frameOf, Act.put, List.setIfInBounds_toArray, List.set_cons_zero, List.set_cons_succ]
          go_simp
          refine (new_any W_).mono ?_
          rintro e w' ⟨rfl, hS, hB⟩
          refine hK.out (.pointer (some ⟨W_.heap.size, 0, none⟩)) _ _ ?_ (hI.trans (hB.mono hI.size)) hB ⟨_, rfl, hS⟩
          simp only [frameOf, Act.put, List.setIfInBounds_toArray, List.set_cons_zero, List.set_cons_succ, Nat.zero_add, Nat.reduceAdd]
        · intro g_ W_ hI hd K hK
          simp only [frameOf, Act.put, List.setIfInBounds_toArray, List.set_cons_zero, List.set_cons_succ]
          have XW := XT.out.below hI
          have c0 := XW.c0
          have c1 := XW.c1
          have c2 := XW.c2
          have c3 := XW.c3
          go_simp
          refine hK.out (.agg #[.int .u8 a.k, .string a.s, .int .i64 a.n, .slice a.p a.kids.len a.c]) _ W_ ?_ hI (Below.refl _ _) rfl
          simp only [frameOf, Act.put, List.setIfInBounds_toArray, List.set_cons_zero, List.set_cons_succ, Nat.zero_add, Nat.reduceAdd]
        · intro g_ W_ hI hd K hK
          simp only [frameOf, Act.put, List.setIfInBounds_toArray, List.set_cons_zero, List.set_cons_succ]
          have XW := XO.out.below hI
          have c0 := XW.c0
          have c1 := XW.c1
          have c2 := XW.c2
          have c3 := XW.c3
          go_simp
          refine hK.out (.agg #[.int .u8 b.k, .string b.s, .int .i64 b.n, .slice b.p b.kids.len b.c]) _ W_ ?_ hI (Below.refl _ _) rfl
          simp only [frameOf, Act.put, List.setIfInBounds_toArray, List.set_cons_zero, List.set_cons_succ, Nat.zero_add, Nat.reduceAdd]
        · intro g_ W_ hI hd K hK
          simp only [frameOf, Act.put, List.setIfInBounds_toArray, List.set_cons_zero, List.set_cons_succ]
          obtain ⟨S_, h0, hS_⟩ := hd 0 (by kernel_rfl)
          have h1 : g_ 1 = .agg #[.int .u8 a.k, .string a.s, .int .i64 a.n, .slice a.p a.kids.len a.c] := hd 1 (by kernel_rfl)
          have h2 : g_ 2 = .agg #[.int .u8 b.k, .string b.s, .int .i64 b.n, .slice b.p b.kids.len b.c] := hd 2 (by kernel_rfl)
          rw [h0, h1, h2]
          go_simp
          refine (Unify_any S_ Sb.none 0 W_ hS_ (by omega) a b OKa.out OKb.out (ATa.out.below (BW.out.trans (hI.mono BW.out.size))) (ATb.out.below hI) hsa hsb).mono ?_
          intro e w' hL
          obtain ⟨p_, he, hp_⟩ := hL.pu
          rw [← E1.out] at he hp_
          subst he
          have hB := hL.1
          refine hK.out (.tuple #[p_, .bool (okU o1), .int .i64 (gU o1)]) _ _ ?_ (hI.trans (hB.mono hI.size)) hB ⟨p_, rfl, hp_⟩
          simp only [frameOf, Act.put, List.setIfInBounds_toArray, List.set_cons_zero, List.set_cons_succ, Nat.zero_add, Nat.reduceAdd, h0, h1, h2]
        · intro g_ W_ hI hd K hK
          simp only [frameOf, Act.put, List.setIfInBounds_toArray, List.set_cons_zero, List.set_cons_succ]
          obtain ⟨p_, h3, hp_⟩ := hd 3 (by kernel_rfl)
          rw [h3]
          go_simp
          refine hK.out (.tuple #[p_, .bool (okU o1), .int .i64 (gU o1)]) _ W_ ?_ hI (Below.refl _ _) ⟨p_, rfl, hp_⟩
          simp only [frameOf, Act.put, List.setIfInBounds_toArray, List.set_cons_zero, List.set_cons_succ, Nat.zero_add, Nat.reduceAdd, h3]
        · intro g_ W_ hI hd K hK
          simp only [frameOf, Act.put, List.setIfInBounds_toArray, List.set_cons_zero, List.set_cons_succ]
          obtain ⟨p_, h4, hp_⟩ := hd 4 (by kernel_rfl)
          rw [h4]
          go_simp
          refine hK.out p_ _ W_ ?_ hI (Below.refl _ _) hp_
          simp only [frameOf, Act.put, List.setIfInBounds_toArray, List.set_cons_zero, List.set_cons_succ, Nat.zero_add, Nat.reduceAdd, h4]
        · intro g_ W_ hI hd K hK
          simp only [frameOf, Act.put, List.setIfInBounds_toArray, List.set_cons_zero, List.set_cons_succ]
          obtain ⟨p_, h4, hp_⟩ := hd 4 (by kernel_rfl)
          rw [h4]
          go_simp
          refine hK.out (.bool (okU o1)) _ W_ ?_ hI (Below.refl _ _) rfl
          simp only [frameOf, Act.put, List.setIfInBounds_toArray, List.set_cons_zero, List.set_cons_succ, Nat.zero_add, Nat.reduceAdd, h4]
        · intro g_ W_ hI hd K hK
          simp only [frameOf, Act.put, List.setIfInBounds_toArray, List.set_cons_zero, List.set_cons_succ]
          obtain ⟨p_, h4, hp_⟩ := hd 4 (by kernel_rfl)
          rw [h4]
          go_simp
          refine hK.out (.int .i64 (gU o1)) _ W_ ?_ hI (Below.refl _ _) rfl
          simp only [frameOf, Act.put, List.setIfInBounds_toArray, List.set_cons_zero, List.set_cons_succ, Nat.zero_add, Nat.reduceAdd, h4]
        · intro g_ W_ hI hd K hK
          simp only [frameOf, Act.put, List.setIfInBounds_toArray, List.set_cons_zero, List.set_cons_succ]
          have hp_ := hd 5 (by kernel_rfl)
          go_simp
          refine hK.out (g_ 5) _ W_ ?_ hI (Below.refl _ _) hp_
          simp only [frameOf, Act.put, List.setIfInBounds_toArray, List.set_cons_zero, List.set_cons_succ, Nat.zero_add, Nat.reduceAdd]
        · intro g_ W_ hI hd K hK
          simp only [frameOf, Act.put, List.setIfInBounds_toArray, List.set_cons_zero, List.set_cons_succ]
          have h6 : g_ 6 = .bool (okU o1) := hd 6 (by kernel_rfl)
          rw [h6]
          go_simp
          refine hK.out (.bool (okU o1)) _ W_ ?_ hI (Below.refl _ _) rfl
          simp only [frameOf, Act.put, List.setIfInBounds_toArray, List.set_cons_zero, List.set_cons_succ, Nat.zero_add, Nat.reduceAdd, h6]
        · intro g_ W_ hI hd K hK
          simp only [frameOf, Act.put, List.setIfInBounds_toArray, List.set_cons_zero, List.set_cons_succ]
          have h7 : g_ 7 = .int .i64 (gU o1) := hd 7 (by kernel_rfl)
          rw [h7]
          go_simp
          refine hK.out (.int .i64 (gU o1)) _ W_ ?_ hI (Below.refl _ _) rfl
          simp only [frameOf, Act.put, List.setIfInBounds_toArray, List.set_cons_zero, List.set_cons_succ, Nat.zero_add, Nat.reduceAdd, h7]
      case donea =>
        intro fa W_ hI hd
        have q8 := hd 8 (by decide)
        have h9 : fa 9 = .bool (okU o1) := hd 9 (by decide)
        have h10 : fa 10 = .int .i64 (gU o1) := hd 10 (by decide)
        simp only [frameOf, Act.put, List.setIfInBounds_toArray, List.set_cons_zero, List.set_cons_succ, Nat.zero_add, Nat.reduceAdd, h9, h10]
        have P1 : Hid (PU o1 (fa 8) W_) := Lib.hid q8
        clear hd q8 h9 h10
        replace XT := Lib.hid (XT.out.below hI)
        replace BW := Lib.hid (BW.out.trans (hI.mono BW.out.size))
        clear hI
        clear W0 XO ATb
        rename World => W0
        have eo := EO.out
        subst eo
        obtain ⟨S1, σ1, hS1, _, hsub1⟩ := P1.out
        have SB1 := Lib.hid hsub1
        rw [hS1]
        clear hS1 hsub1 P1 E1
        simp only [okU_ok, gU_ok]
        go_wp2_with fail
        refine (len_any S1 σ1 zs.length W0 SB1.out).mono ?_
        rintro e we ⟨rfl, hwe⟩
        have h8 := hwe.symm
        subst h8
        have cc : ((zs.length : Int) != (zs.length : Int)) = false := by simp
        go_upto_region 13 with fail
        refine region_by_facts (fun W_ => Below W0.heap.size W0 W_) [fun u W => ∃ S, u = .pointer (some ⟨S, 0, none⟩) ∧ SubAt S Sb.none 0 W, fun u _ => u = .agg #[.int .u8 a.k, .string a.s, .int .i64 a.n, .slice a.p a.kids.len a.c], fun u _ => u = .agg #[.int .u8 a.k, .string a.s, .int .i64 a.n, .slice a.p a.kids.len a.c], fun u W => ∃ R, u = .slice (some ⟨R, 0, none⟩) 1 1 ∧ Ts.At W (some ⟨R, 0, none⟩) (.cons a.k a.s a.n a.p a.c a.kids .nil), fun u W => ∃ q d us, u = .agg #[.int .u8 4, .string ⟨#[115]⟩, .int .i64 0, .slice q us.len d] ∧ Ts.At W q us ∧ Ts.twin us (.cons a.k a.s a.n a.p a.c a.kids .nil) ∧ Nd.ok ⟨4, ⟨#[115]⟩, 0, q, d, us⟩, fun u _ => u = .tuple #[.pointer none, .bool false, .int .i64 0], fun u _ => u = .tuple #[.pointer none, .bool false, .int .i64 0], fun u _ => u = .pointer none, fun u _ => u = .bool false, fun u _ => u = .int .i64 0, fun u _ => u = .pointer none, fun u _ => u = .bool false, fun u _ => u = .int .i64 0]
          ⟨(by rintro v_ w_ x_ ⟨S, h1, h2⟩ hB; exact ⟨S, h1, h2.below hB⟩), .eq _, .eq _, (by rintro v_ w_ x_ ⟨R, h1, h2⟩ hB; exact ⟨R, h1, h2.below hB⟩), (by rintro v_ w_ x_ ⟨q, d, us, h1, h2, h3⟩ hB; exact ⟨q, d, us, h1, h2.below hB, h3⟩), .eq _, .eq _, .eq _, .eq _, .eq _, .eq _, .eq _, .eq _, trivial⟩ (by kernel_rfl) (by kernel_rfl) (by kernel_rfl) ?h0z ?stepsz ?donez
        case h0z => exact (Below.refl _ _).drew
        case stepsz =>
          refine ⟨?_, ?_, ?_, ?_, ?_, ?_, ?_, ?_, ?_, ?_, ?_, ?_, ?_, trivial⟩
          · intro g_ W_ hI hd K hK
            simp only [frameOf, Act.put, List.setIfInBounds_toArray, List.set_cons_zero, List.set_cons_succ]
            go_simp
            refine (new_any W_).mono ?_
            rintro e w' ⟨rfl, hS, hB⟩
            refine hK.out (.pointer (some ⟨W_.heap.size, 0, none⟩)) _ _ ?_ (hI.trans (hB.mono hI.size)) hB ⟨_, rfl, hS⟩
            simp only [frameOf, Act.put, List.setIfInBounds_toArray, List.set_cons_zero, List.set_cons_succ, Nat.zero_add, Nat.reduceAdd]
          · intro g_ W_ hI hd K hK
            simp only [frameOf, Act.put, List.setIfInBounds_toArray, List.set_cons_zero, List.set_cons_succ]
            have XW := XT.out.below hI
            have c0 := XW.c0
            have c1 := XW.c1
            have c2 := XW.c2
            have c3 := XW.c3
            go_simp
            refine hK.out (.agg #[.int .u8 a.k, .string a.s, .int .i64 a.n, .slice a.p a.kids.len a.c]) _ W_ ?_ hI (Below.refl _ _) rfl
            simp only [frameOf, Act.put, List.setIfInBounds_toArray, List.set_cons_zero, List.set_cons_succ, Nat.zero_add, Nat.reduceAdd]
          · intro g_ W_ hI hd K hK
            simp only [frameOf, Act.put, List.setIfInBounds_toArray, List.set_cons_zero, List.set_cons_succ]
            have XW := XT.out.below hI
            have c0 := XW.c0
            have c1 := XW.c1
            have c2 := XW.c2
            have c3 := XW.c3
            go_simp
            refine hK.out (.agg #[.int .u8 a.k, .string a.s, .int .i64 a.n, .slice a.p a.kids.len a.c]) _ W_ ?_ hI (Below.refl _ _) rfl
            simp only [frameOf, Act.put, List.setIfInBounds_toArray, List.set_cons_zero, List.set_cons_succ, Nat.zero_add, Nat.reduceAdd]
          · intro g_ W_ hI hd K hK
            simp only [frameOf, Act.put, List.setIfInBounds_toArray, List.set_cons_zero, List.set_cons_succ]
            have h2 : g_ 2 = .agg #[.int .u8 a.k, .string a.s, .int .i64 a.n, .slice a.p a.kids.len a.c] := hd 2 (by kernel_rfl)
            rw [h2]
            go_simp
            refine hK.out (.slice (some ⟨W_.heap.size, 0, none⟩) 1 1) _ _ ?_ (hI.alloc hI.size _) ((Below.refl _ _).alloc (Nat.le_refl _) _) ⟨_, rfl, (boxOne rfl (ATa.out.below (BW.out.trans (hI.mono BW.out.size)))).2⟩
            simp only [frameOf, Act.put, List.setIfInBounds_toArray, List.set_cons_zero, List.set_cons_succ, Nat.zero_add, Nat.reduceAdd, h2]
          · intro g_ W_ hI hd K hK
            simp only [frameOf, Act.put, List.setIfInBounds_toArray, List.set_cons_zero, List.set_cons_succ]
            obtain ⟨R_, h3, hR_⟩ := hd 3 (by kernel_rfl)
            rw [h3]
            go_simp
            refine (F_any ⟨#[115]⟩ (.cons a.k a.s a.n a.p a.c a.kids .nil) (by simp only [Ts.size]; omega) OKa.out W_ _ 1 hR_).mono ?_
            rintro e w' ⟨us, q, d, rfl, hat6, htw6, hok6, hcl6, hpn6, hB⟩
            rw [if_neg (by simp [Ts.len])]
            unfold tv
            refine hK.out (.agg #[.int .u8 4, .string ⟨#[115]⟩, .int .i64 0, .slice q us.len d]) _ _ ?_ (hI.trans (hB.mono hI.size)) hB ⟨q, d, us, rfl, hat6.at, htw6, nd_ok (by omega) (by simp [ByteArray.size]) (by omega) hcl6 hpn6 hok6⟩
            simp only [frameOf, Act.put, List.setIfInBounds_toArray, List.set_cons_zero, List.set_cons_succ, Nat.zero_add, Nat.reduceAdd, h3]
          · intro g_ W_ hI hd K hK
            simp only [frameOf, Act.put, List.setIfInBounds_toArray, List.set_cons_zero, List.set_cons_succ]
            obtain ⟨S_, h0, hS_⟩ := hd 0 (by kernel_rfl)
            have h1 : g_ 1 = .agg #[.int .u8 a.k, .string a.s, .int .i64 a.n, .slice a.p a.kids.len a.c] := hd 1 (by kernel_rfl)
            obtain ⟨q_, d_, us_, h4, hq_, ht_, hk_⟩ := hd 4 (by kernel_rfl)
            rw [h0, h1, h4]
            go_simp
            refine (Unify_any S_ Sb.none 0 W_ hS_ (by omega) a ⟨4, ⟨#[115]⟩, 0, q_, d_, us_⟩ OKa.out hk_ (ATa.out.below (BW.out.trans (hI.mono BW.out.size))) hq_ hsa (by have h5 := Ts.twin_size _ _ ht_; simp only [Ts.size] at h5; simp only; omega)).mono ?_
            intro e w' hL
            obtain ⟨p_, he, hp_⟩ := hL.pu
            rw [own_no ht_ (by omega)] at he hp_
            have hp2 : p_ = .pointer none := hp_
            subst hp2
            simp only [okU, gU] at he
            subst he
            have hB := hL.1
            refine hK.out (.tuple #[.pointer none, .bool false, .int .i64 0]) _ _ ?_ (hI.trans (hB.mono hI.size)) hB rfl
            simp only [frameOf, Act.put, List.setIfInBounds_toArray, List.set_cons_zero, List.set_cons_succ, Nat.zero_add, Nat.reduceAdd, h0, h1, h4]
          · intro g_ W_ hI hd K hK
            simp only [frameOf, Act.put, List.setIfInBounds_toArray, List.set_cons_zero, List.set_cons_succ]
            have h5 : g_ 5 = .tuple #[.pointer none, .bool false, .int .i64 0] := hd 5 (by kernel_rfl)
            rw [h5]
            go_simp
            refine hK.out (.tuple #[.pointer none, .bool false, .int .i64 0]) _ W_ ?_ hI (Below.refl _ _) rfl
            simp only [frameOf, Act.put, List.setIfInBounds_toArray, List.set_cons_zero, List.set_cons_succ, Nat.zero_add, Nat.reduceAdd, h5]
          · intro g_ W_ hI hd K hK
            simp only [frameOf, Act.put, List.setIfInBounds_toArray, List.set_cons_zero, List.set_cons_succ]
            have h6 : g_ 6 = .tuple #[.pointer none, .bool false, .int .i64 0] := hd 6 (by kernel_rfl)
            rw [h6]
            go_simp
            refine hK.out (.pointer none) _ W_ ?_ hI (Below.refl _ _) rfl
            simp only [frameOf, Act.put, List.setIfInBounds_toArray, List.set_cons_zero, List.set_cons_succ, Nat.zero_add, Nat.reduceAdd, h6]
          · intro g_ W_ hI hd K hK
            simp only [frameOf, Act.put, List.setIfInBounds_toArray, List.set_cons_zero, List.set_cons_succ]
            have h6 : g_ 6 = .tuple #[.pointer none, .bool false, .int .i64 0] := hd 6 (by kernel_rfl)
            rw [h6]
            go_simp
            refine hK.out (.bool false) _ W_ ?_ hI (Below.refl _ _) rfl
            simp only [frameOf, Act.put, List.setIfInBounds_toArray, List.set_cons_zero, List.set_cons_succ, Nat.zero_add, Nat.reduceAdd, h6]
          · intro g_ W_ hI hd K hK
            simp only [frameOf, Act.put, List.setIfInBounds_toArray, List.set_cons_zero, List.set_cons_succ]
            have h6 : g_ 6 = .tuple #[.pointer none, .bool false, .int .i64 0] := hd 6 (by kernel_rfl)
            rw [h6]
            go_simp
            refine hK.out (.int .i64 0) _ W_ ?_ hI (Below.refl _ _) rfl
            simp only [frameOf, Act.put, List.setIfInBounds_toArray, List.set_cons_zero, List.set_cons_succ, Nat.zero_add, Nat.reduceAdd, h6]
          · intro g_ W_ hI hd K hK
            simp only [frameOf, Act.put, List.setIfInBounds_toArray, List.set_cons_zero, List.set_cons_succ]
            have h7 : g_ 7 = .pointer none := hd 7 (by kernel_rfl)
            rw [h7]
            go_simp
            refine hK.out (.pointer none) _ W_ ?_ hI (Below.refl _ _) rfl
            simp only [frameOf, Act.put, List.setIfInBounds_toArray, List.set_cons_zero, List.set_cons_succ, Nat.zero_add, Nat.reduceAdd, h7]
          · intro g_ W_ hI hd K hK
            simp only [frameOf, Act.put, List.setIfInBounds_toArray, List.set_cons_zero, List.set_cons_succ]
            have h8 : g_ 8 = .bool false := hd 8 (by kernel_rfl)
            rw [h8]
            go_simp
            refine hK.out (.bool false) _ W_ ?_ hI (Below.refl _ _) rfl
            simp only [frameOf, Act.put, List.setIfInBounds_toArray, List.set_cons_zero, List.set_cons_succ, Nat.zero_add, Nat.reduceAdd, h8]
          · intro g_ W_ hI hd K hK
            simp only [frameOf, Act.put, List.setIfInBounds_toArray, List.set_cons_zero, List.set_cons_succ]
            have h9 : g_ 9 = .int .i64 0 := hd 9 (by kernel_rfl)
            rw [h9]
            go_simp
            refine hK.out (.int .i64 0) _ W_ ?_ hI (Below.refl _ _) rfl
            simp only [frameOf, Act.put, List.setIfInBounds_toArray, List.set_cons_zero, List.set_cons_succ, Nat.zero_add, Nat.reduceAdd, h9]
        case donez =>
          intro fz W_ hI hd
          have h10 : fz 10 = .pointer none := hd 10 (by decide)
          have h11 : fz 11 = .bool false := hd 11 (by decide)
          have h12 : fz 12 = .int .i64 0 := hd 12 (by decide)
          simp only [frameOf, Act.put, List.setIfInBounds_toArray, List.set_cons_zero, List.set_cons_succ, Nat.zero_add, Nat.reduceAdd, h10, h11, h12]
          clear hd h10 h11 h12
          replace BW := Lib.hid (BW.out.trans (hI.mono BW.out.size))
          clear hI
          go_wp2_with fail
          refine (wakes4_any _).mono ?_
          rintro e we ⟨rfl, hB⟩
          replace BW := Lib.hid (BW.out.trans (hB.mono BW.out.size))
          clear hB
          go_wp2
          go_ret
          exact ⟨rfl, BW.out⟩

theorem unifyApart_w (w : World) (k : Int) (s : ByteArray) (n : Int) (p : Option Addr) (c : Nat) (ts : Ts) (d : Int) (hok : Ts.ok (.cons k s n p c ts .nil)) (htat : Ts.At w p ts) (hd : -9223372036854775808 ≤ d ∧ d ≤ 9223372036854775807) :
    Calls Try.prog 10 #[tv k s n p ts.len c, .int .i64 d] w fun e w' => e = .returned (.bool true) ∧ Below w.heap.size w w' :=
  unifyApart_true ⟨k, s, n, p, c, ts⟩ d w hok htat hd

end Go.Proofs.Ytflomdnjabgnaaa
