import Derived.Test.YtflomdnjabgnaaaDi
import Derived.Test.YtflomdnjabgnaaaAx
/-
  The law UnifyStructs, walked. (Written by gen_db.py.)
-/
namespace Go.Proofs.Ytflomdnjabgnaaa
open Go.RowKit

theorem news_of {w W5 : World} {bb ob : Nat} {tb : Ts} (hst : ∀ b o, b < w.heap.size → W5.cell? ⟨b, o, none⟩ = w.cell? ⟨b, o, none⟩) (hl : tb.lies w bb ob) : ∀ j u, (cellsL tb)[j]? = some u → W5.cell? ((⟨bb, ob, none⟩ : Addr).add j) = some u := by
  intro j u hj
  rw [Go.WideShapes.add_plain]
  exact cellsL_of tb (Ts.lies_stay hst tb hl) j u hj

theorem grownBy_below {w w' : World} (h : w.grownBy w' none) : Below w.heap.size w w' := ⟨h.os, h.tape, h.output, h.size, fun k hk => h.block k hk (by simp)⟩

set_option maxRecDepth 100000 in
set_option maxHeartbeats 16000000 in
theorem unifyStructs_w (w : World) (pa : Option Addr) (ca : Nat) (ta : Ts) (pb : Option Addr) (cb : Nat) (tb : Ts) (hoka : ta.ok) (hata : Ts.At w pa ta) (hla : (ta.len ≤ ca ∧ ca ≤ 9223372036854775807) ∧ (pa = none → ca = 0)) (hokb : tb.ok) (hatb : Ts.At w pb tb) (hlb : (tb.len ≤ cb ∧ cb ≤ 9223372036854775807) ∧ (pb = none → cb = 0)) :
    Calls Try.prog 11 #[.slice pa ta.len ca, .slice pb tb.len cb] w fun e w' => e = .returned (.bool true) ∧ Below w.heap.size w w' := by
  have OKA := Lib.hid hoka
  have ATA := Lib.hid hata
  have OKB := Lib.hid hokb
  have ATB := Lib.hid hatb
  obtain ⟨⟨hca, hca'⟩, -⟩ := hla
  obtain ⟨⟨hcb, hcb'⟩, -⟩ := hlb
  clear hoka hata hokb hatb
  have BW := Lib.hid (Below.refl w.heap.size w)
  obtain ⟨ga, hga⟩ : ∃ g, g = decide (1000 < manyP ta 0) := ⟨_, rfl⟩
  have GA := Lib.hid hga
  obtain ⟨gb, hgb⟩ : ∃ g, g = decide (1000 < manyP tb 0) := ⟨_, rfl⟩
  have GB := Lib.hid hgb
  clear hga hgb
  go_enter Try.func11, Try.ntmps11
  go_wp2_with fail
  refine (great_is ta OKA.out ga GA.out.symm w pa ca ATA.out (by omega)).mono ?_
  rintro e w1 ⟨rfl, hI⟩
  replace BW := Lib.hid (BW.out.trans (hI.mono BW.out.size))
  clear hI
  cases ga with
  | true =>
    go_wp2_with fail
    refine (wakes4_any _).mono ?_
    rintro e we ⟨rfl, hB⟩
    replace BW := Lib.hid (BW.out.trans (hB.mono BW.out.size))
    clear hB
    go_wp2
    go_ret
    exact ⟨rfl, BW.out⟩

  | false =>
  go_wp2_with fail
  refine (great_is tb OKB.out gb GB.out.symm w1 pb cb (ATB.out.below BW.out) (by omega)).mono ?_
  rintro e w2 ⟨rfl, hI⟩
  replace BW := Lib.hid (BW.out.trans (hI.mono BW.out.size))
  clear hI
  cases gb with
  | true =>
    go_wp2_with fail
    refine (wakes4_any _).mono ?_
    rintro e we ⟨rfl, hB⟩
    replace BW := Lib.hid (BW.out.trans (hB.mono BW.out.size))
    clear hB
    go_wp2
    go_ret
    exact ⟨rfl, BW.out⟩

  | false =>
  have hsa := small_of_many GA.out.symm
  have hsb := small_of_many GB.out.symm
  have hlsa := Ts.len_size ta
  have hlsb := Ts.len_size tb
  by_cases h1 : (ta.len : Int) > 16
  · go_wp2_with fail
    refine (wakes4_any _).mono ?_
    rintro e we ⟨rfl, hB⟩
    replace BW := Lib.hid (BW.out.trans (hB.mono BW.out.size))
    clear hB
    go_wp2
    go_ret
    exact ⟨rfl, BW.out⟩
  by_cases h2 : (tb.len : Int) > 16
  · go_wp2_with fail
    refine (wakes4_any _).mono ?_
    rintro e we ⟨rfl, hB⟩
    replace BW := Lib.hid (BW.out.trans (hB.mono BW.out.size))
    clear hB
    go_wp2
    go_ret
    exact ⟨rfl, BW.out⟩
  by_cases h3 : ((ta.len : Int) == 0) = true
  · go_wp2_with fail
    refine (wakes4_any _).mono ?_
    rintro e we ⟨rfl, hB⟩
    replace BW := Lib.hid (BW.out.trans (hB.mono BW.out.size))
    clear hB
    go_wp2
    go_ret
    exact ⟨rfl, BW.out⟩
  rw [Bool.not_eq_true] at h3
  by_cases h4 : ((tb.len : Int) == 0) = true
  · go_wp2_with fail
    refine (wakes4_any _).mono ?_
    rintro e we ⟨rfl, hB⟩
    replace BW := Lib.hid (BW.out.trans (hB.mono BW.out.size))
    clear hB
    go_wp2
    go_ret
    exact ⟨rfl, BW.out⟩
  rw [Bool.not_eq_true] at h4
  have hla0 : 0 < ta.len := by have := beq_eq_false_iff_ne.1 h3; omega
  have hlb0 : 0 < tb.len := by have := beq_eq_false_iff_ne.1 h4; omega
  go_wp2_with fail
  refine (new_any w2).mono ?_
  rintro e w3 ⟨rfl, hS, hI⟩
  have SN := Lib.hid hS
  clear hS
  replace BW := Lib.hid (BW.out.trans (hI.mono BW.out.size))
  clear hI
  obtain ⟨S0, hS0⟩ : ∃ S, S = w2.heap.size := ⟨_, rfl⟩
  rw [← hS0] at SN ⊢
  clear hS0 h3 h4
  go_wp2_with fail
  refine (ListsU_any S0 w3 SN.out pa ta ca pb tb cb (ent_list OKA.out (ATA.out.below BW.out) ⟨hca, hca'⟩ hsa) (ent_list OKB.out (ATB.out.below BW.out) ⟨hcb, hcb'⟩ hsb)).mono ?_
  rintro e w4 ⟨p5, rfl, hp5, hI⟩
  clear SN
  have P5 := Lib.hid hp5
  clear hp5
  replace BW := Lib.hid (BW.out.trans (hI.mono BW.out.size))
  clear hI
  obtain ⟨o1, ho1⟩ : ∃ o, o = outL ta tb := ⟨_, rfl⟩
  rw [← ho1] at P5 ⊢
  have E1 := Lib.hid ho1
  clear ho1
  go_wp2_with fail
  refine (new_any w4).mono ?_
  rintro e w5 ⟨rfl, hS, hI⟩
  have SN := Lib.hid hS
  clear hS
  obtain ⟨S1, hS1⟩ : ∃ S, S = w4.heap.size := ⟨_, rfl⟩
  rw [← hS1] at SN ⊢
  clear hS1
  replace P5 := Lib.hid (P5.out.below hI)
  replace BW := Lib.hid (BW.out.trans (hI.mono BW.out.size))
  clear hI
  go_wp2_with fail
  refine (F_any ⟨#[102]⟩ ta (by omega) OKA.out w5 pa ca (ATA.out.below BW.out)).mono ?_
  rintro e w6 ⟨usa, qa, da, rfl, hat6, htw6, hok6, hcl6, hpn6, hI⟩
  rw [if_neg (by omega)]
  unfold tv
  have ATX := Lib.hid hat6.at
  have TWX := Lib.hid htw6
  have OKX := Lib.hid (nd_ok (k := 4) (s := ⟨#[102]⟩) (n := 0) (by omega) (by simp [ByteArray.size]) (by omega) hcl6 hpn6 hok6)
  have SZX : usa.size ≤ 5000 := by rw [Ts.twin_size _ _ htw6]; omega
  clear hat6 htw6 hok6 hcl6 hpn6
  replace P5 := Lib.hid (P5.out.below hI)
  replace SN := Lib.hid (SN.out.below hI)
  replace BW := Lib.hid (BW.out.trans (hI.mono BW.out.size))
  clear hI
  go_wp2_with fail
  refine (F_any ⟨#[102]⟩ tb (by omega) OKB.out w6 pb cb (ATB.out.below BW.out)).mono ?_
  rintro e w7 ⟨usb, qb, db, rfl, hat6, htw6, hok6, hcl6, hpn6, hI⟩
  rw [if_neg (by omega)]
  unfold tv
  have ATY := Lib.hid hat6.at
  have TWY := Lib.hid htw6
  have OKY := Lib.hid (nd_ok (k := 4) (s := ⟨#[102]⟩) (n := 0) (by omega) (by simp [ByteArray.size]) (by omega) hcl6 hpn6 hok6)
  have SZY : usb.size ≤ 5000 := by rw [Ts.twin_size _ _ htw6]; omega
  clear hat6 htw6 hok6 hcl6 hpn6
  replace P5 := Lib.hid (P5.out.below hI)
  replace SN := Lib.hid (SN.out.below hI)
  replace ATX := Lib.hid (ATX.out.below hI)
  replace BW := Lib.hid (BW.out.trans (hI.mono BW.out.size))
  clear hI
  go_wp2_with fail
  refine (Unify_any S1 Sb.none 0 w7 SN.out (by omega) ⟨4, ⟨#[102]⟩, 0, qa, da, usa⟩ ⟨4, ⟨#[102]⟩, 0, qb, db, usb⟩ OKX.out OKY.out ATX.out ATY.out SZX SZY).mono ?_
  intro e w8 hL
  obtain ⟨p8, he, hp8⟩ := hL.pu
  have hI := hL.1
  obtain ⟨o2, ho2⟩ : ∃ o, o = un 4096 0 Sb.none [(⟨4, ⟨#[102]⟩, 0, qa, da, usa⟩, ⟨4, ⟨#[102]⟩, 0, qb, db, usb⟩)] := ⟨_, rfl⟩
  rw [← ho2] at he hp8
  have hst := out_structs (X := ⟨4, ⟨#[102]⟩, 0, qa, da, usa⟩) (Y := ⟨4, ⟨#[102]⟩, 0, qb, db, usb⟩) ⟨rfl, rfl, rfl, rfl⟩ TWX.out TWY.out
  rw [← ho2, ← E1.out] at hst
  have ST := Lib.hid hst
  have P8 := Lib.hid hp8
  subst he
  clear ho2 hst hp8 hL ATX ATY TWX TWY OKX OKY SZX SZY SN E1
  replace P5 := Lib.hid (P5.out.below hI)
  replace BW := Lib.hid (BW.out.trans (hI.mono BW.out.size))
  clear hI
  go_upto_region 5 with fail
  cases o2 with
  | full =>
    cases o1 with
    | full =>
      simp only [okU, gU]
      go_wp2_with fail
      refine (wakes4_any _).mono ?_
      rintro e we ⟨rfl, hB⟩
      replace BW := Lib.hid (BW.out.trans (hB.mono BW.out.size))
      clear hB
      go_wp2
      go_ret
      exact ⟨rfl, BW.out⟩

    | no =>
      simp only [okU, gU]
      go_wp2_with fail
      refine (wakes4_any _).mono ?_
      rintro e we ⟨rfl, hB⟩
      replace BW := Lib.hid (BW.out.trans (hB.mono BW.out.size))
      clear hB
      go_wp2
      go_ret
      exact ⟨rfl, BW.out⟩

    | ok ρ1 c1 r1 =>
      simp only [okU, gU]
      go_wp2_with fail
      refine (wakes4_any _).mono ?_
      rintro e we ⟨rfl, hB⟩
      replace BW := Lib.hid (BW.out.trans (hB.mono BW.out.size))
      clear hB
      go_wp2
      go_ret
      exact ⟨rfl, BW.out⟩

  | no =>
    have h1 := ST.out.1 rfl
    subst h1
    simp only [okU, gU]
    go_upto_region 9 with fail
    obtain ⟨ba, oa, hpa, hlia⟩ := id ATA.out
    have hpa' := Ts.some_of hpa hla0
    clear hpa
    subst hpa'
    obtain ⟨bb, ob, hpb, hlib⟩ := id ATB.out
    have hpb' := Ts.some_of hpb hlb0
    clear hpb
    subst hpb'
    have LIA := Lib.hid hlia
    have LIB := Lib.hid hlib
    clear hlia hlib
    obtain ⟨i0, hi, hz0, hz1, hz2⟩ := info_parts infoTerm
    have hs9 := BW.out.size
    have hn1 : ∀ j u, (cellsL ta)[j]? = some u → w8.cell? ((⟨ba, oa, none⟩ : Addr).add j) = some u := by
      intro j u hj
      rw [Go.WideShapes.add_plain]
      exact cellsL_of ta (Ts.lies_stay (stays BW.out).1 ta LIA.out) j u hj
    have HN1 := Lib.hid hn1
    clear hn1
    go_wp2_with (at_builtin; first | (refine wpList_append_own_at _ rfl _ _ 22 rfl w.heap.size 24 i0 zeroTerm 4 56 Try.underlying22 hi hz0 hz1 hz2 rfl (by decide) _ _ _ rfl (World.ownsRow_nil _ _ _ _) ⟨ba, oa, none⟩ ta.len ca (cellsL ta) rfl (cellsL_length ta) HN1.out (cellsL_one ta) (by unfold maxLen; omega) (by omega) (by omega) ?_; intro v5 W5 hown2 hgrow2 hnil hob; have X5 := Lib.hid (And.intro hown2 (And.intro hgrow2 hob)); have X9 : Hid (Below w8.heap.size w8 W5) := Lib.hid (grownBy_below hgrow2); clear hown2 hgrow2 hnil hob; have B5 := Lib.hid (BW.out.trans (X9.out.mono BW.out.size)); have hs5 := B5.out.size; have HN2 := Lib.hid (news_of (stays B5.out).1 LIB.out)) | (refine wpList_append_own_at _ rfl _ _ 22 rfl w.heap.size 24 i0 zeroTerm 4 56 Try.underlying22 hi hz0 hz1 hz2 rfl (by decide) _ _ _ rfl X5.out.1 ⟨bb, ob, none⟩ tb.len cb (cellsL tb) rfl (cellsL_length tb) HN2.out (cellsL_one tb) (by unfold maxLen; omega) (by omega) (by omega) ?_; intro v6 W6 hown2 hgrow2 hnil hob; have X6 := Lib.hid (And.intro hown2 (And.intro hgrow2 hob)); clear hown2 hgrow2 hnil hob))
    have hI : Below w8.heap.size w8 W6 := X9.out.grown X6.out.2.1 X9.out.size (fun k hk => by
      have hk2 : v5.ownBlock = some k := hk
      rcases X5.out.2.2 with h | h
      · have h2 : v5.ownBlock = none := h
        rw [h2] at hk2; cases hk2
      · have h2 : v5.ownBlock = some w8.heap.size := h
        rw [h2] at hk2; cases hk2; exact Nat.le_refl _)
    replace BW := Lib.hid (BW.out.trans (hI.mono BW.out.size))
    clear hI
    have hrt := row_terms (ts := ta.app tb) (by simpa [cellsL_app] using X6.out.1) (app_len ta tb).symm (KidsAt.app (kidsAt_at (ATA.out.below BW.out)) (kidsAt_at (ATB.out.below BW.out)))
    obtain ⟨q6, c6, rfl, hat6, hcl6, -, -⟩ := hrt
    have AT6 := Lib.hid hat6
    have hsz6 : (ta.app tb).size ≤ 900000 := by rw [app_sz]; omega
    have OK6 := Lib.hid (app_ok OKA.out OKB.out)
    clear hat6 X5 X6 X9 B5 HN1 HN2 LIA LIB
    refine (tvars_any (ta.app tb) hsz6 OK6.out W6 q6 c6 hcl6 AT6.out).mono ?_
    rintro e w10 ⟨v10, rfl, hrow, hI⟩
    obtain ⟨p, cp, rfl, hin, hcp⟩ := ints_of_row hrow
    obtain ⟨zs, hzs⟩ : ∃ zs, zs = numsOf ((nodesOf (ta.app tb)).map Ts.mark) := ⟨_, rfl⟩
    rw [← hzs] at hin hcp ⊢
    have ZE := Lib.hid hzs
    have IN := Lib.hid hin
    clear hrow hin hzs
    replace BW := Lib.hid (BW.out.trans (hI.mono BW.out.size))
    clear hI
    have hzl : zs.length ≤ 9223372036854775807 := by omega
    go_wp2_with fail
    go_loopw [12] (fun s12 wr => s12 = .int .i64 0 ∧ Hid (Below w10.heap.size w10 wr)) (fun _ _ => 0)
    case atStart => exact ⟨rfl, Lib.hid (Below.refl _ _)⟩
    case round =>
      obtain ⟨rfl, BR⟩ := hrel
      replace BW := Lib.hid (BW.out.trans (BR.out.mono BW.out.size))
      clear BR
      by_cases hz0 : (0 : Int) < (zs.length : Int)
      · go_wp2_with fail
        refine (wakes4_any _).mono ?_
        rintro e we ⟨rfl, hB⟩
        replace BW := Lib.hid (BW.out.trans (hB.mono BW.out.size))
        clear hB
        go_wp2
        go_ret
        exact ⟨rfl, BW.out⟩
      · go_wp2_with fail
        refine (wakes4_any _).mono ?_
        rintro e we ⟨rfl, hB⟩
        replace BW := Lib.hid (BW.out.trans (hB.mono BW.out.size))
        clear hB
        go_wp2
        go_ret
        exact ⟨rfl, BW.out⟩
  | ok ρ2 c2 r2 =>
    obtain ⟨ρ1, r1, h1, hst⟩ := ST.out.2 ρ2 c2 r2 rfl
    subst h1
    obtain ⟨S3, σ3, hS3, hst3, hsub3⟩ := P5.out
    obtain ⟨S4, σ4, hS4, hst4, hsub4⟩ := P8.out
    have STW := Lib.hid (hst3.trans (hst.symm.trans hst4.symm))
    have SB3 := Lib.hid hsub3
    have SB4 := Lib.hid hsub4
    subst hS3 hS4
    simp only [okU, gU]
    clear hst hst3 hst4 hsub3 hsub4 P5 P8 ST
    go_wp2_with fail
    refine (len_any S3 σ3 c2 w8 SB3.out).mono ?_
    rintro e we ⟨rfl, hwe⟩
    have h8 := hwe.symm
    subst h8
    go_wp2_with fail
    refine (len_any S4 σ4 c2 _ SB4.out).mono ?_
    rintro e we ⟨rfl, hwe⟩
    have h8 := hwe.symm
    subst h8
    have cc : ((c2 : Int) != (c2 : Int)) = false := by simp
    go_upto_region 9 with fail
    obtain ⟨ba, oa, hpa, hlia⟩ := id ATA.out
    have hpa' := Ts.some_of hpa hla0
    clear hpa
    subst hpa'
    obtain ⟨bb, ob, hpb, hlib⟩ := id ATB.out
    have hpb' := Ts.some_of hpb hlb0
    clear hpb
    subst hpb'
    have LIA := Lib.hid hlia
    have LIB := Lib.hid hlib
    clear hlia hlib
    obtain ⟨i0, hi, hz0, hz1, hz2⟩ := info_parts infoTerm
    have hs9 := BW.out.size
    have hn1 : ∀ j u, (cellsL ta)[j]? = some u → w8.cell? ((⟨ba, oa, none⟩ : Addr).add j) = some u := by
      intro j u hj
      rw [Go.WideShapes.add_plain]
      exact cellsL_of ta (Ts.lies_stay (stays BW.out).1 ta LIA.out) j u hj
    have HN1 := Lib.hid hn1
    clear hn1
    go_wp2_with (at_builtin; first | (refine wpList_append_own_at _ rfl _ _ 22 rfl w.heap.size 24 i0 zeroTerm 4 56 Try.underlying22 hi hz0 hz1 hz2 rfl (by decide) _ _ _ rfl (World.ownsRow_nil _ _ _ _) ⟨ba, oa, none⟩ ta.len ca (cellsL ta) rfl (cellsL_length ta) HN1.out (cellsL_one ta) (by unfold maxLen; omega) (by omega) (by omega) ?_; intro v5 W5 hown2 hgrow2 hnil hob; have X5 := Lib.hid (And.intro hown2 (And.intro hgrow2 hob)); have X9 : Hid (Below w8.heap.size w8 W5) := Lib.hid (grownBy_below hgrow2); clear hown2 hgrow2 hnil hob; have B5 := Lib.hid (BW.out.trans (X9.out.mono BW.out.size)); have hs5 := B5.out.size; have HN2 := Lib.hid (news_of (stays B5.out).1 LIB.out)) | (refine wpList_append_own_at _ rfl _ _ 22 rfl w.heap.size 24 i0 zeroTerm 4 56 Try.underlying22 hi hz0 hz1 hz2 rfl (by decide) _ _ _ rfl X5.out.1 ⟨bb, ob, none⟩ tb.len cb (cellsL tb) rfl (cellsL_length tb) HN2.out (cellsL_one tb) (by unfold maxLen; omega) (by omega) (by omega) ?_; intro v6 W6 hown2 hgrow2 hnil hob; have X6 := Lib.hid (And.intro hown2 (And.intro hgrow2 hob)); clear hown2 hgrow2 hnil hob))
    have hI : Below w8.heap.size w8 W6 := X9.out.grown X6.out.2.1 X9.out.size (fun k hk => by
      have hk2 : v5.ownBlock = some k := hk
      rcases X5.out.2.2 with h | h
      · have h2 : v5.ownBlock = none := h
        rw [h2] at hk2; cases hk2
      · have h2 : v5.ownBlock = some w8.heap.size := h
        rw [h2] at hk2; cases hk2; exact Nat.le_refl _)
    replace SB3 := Lib.hid (SB3.out.below hI)
    replace SB4 := Lib.hid (SB4.out.below hI)
    replace BW := Lib.hid (BW.out.trans (hI.mono BW.out.size))
    clear hI
    have hrt := row_terms (ts := ta.app tb) (by simpa [cellsL_app] using X6.out.1) (app_len ta tb).symm (KidsAt.app (kidsAt_at (ATA.out.below BW.out)) (kidsAt_at (ATB.out.below BW.out)))
    obtain ⟨q6, c6, rfl, hat6, hcl6, -, -⟩ := hrt
    have AT6 := Lib.hid hat6
    have hsz6 : (ta.app tb).size ≤ 900000 := by rw [app_sz]; omega
    have OK6 := Lib.hid (app_ok OKA.out OKB.out)
    clear hat6 X5 X6 X9 B5 HN1 HN2 LIA LIB
    refine (tvars_any (ta.app tb) hsz6 OK6.out W6 q6 c6 hcl6 AT6.out).mono ?_
    rintro e w10 ⟨v10, rfl, hrow, hI⟩
    obtain ⟨p, cp, rfl, hin, hcp⟩ := ints_of_row hrow
    obtain ⟨zs, hzs⟩ : ∃ zs, zs = numsOf ((nodesOf (ta.app tb)).map Ts.mark) := ⟨_, rfl⟩
    rw [← hzs] at hin hcp ⊢
    have ZE := Lib.hid hzs
    have IN := Lib.hid hin
    clear hrow hin hzs
    replace SB3 := Lib.hid (SB3.out.below hI)
    replace SB4 := Lib.hid (SB4.out.below hI)
    replace BW := Lib.hid (BW.out.trans (hI.mono BW.out.size))
    clear hI
    have hzl : zs.length ≤ 9223372036854775807 := by omega
    go_wp2_with fail
    go_loopw [12] (fun s12 wr => ∃ j : Nat, s12 = .int .i64 j ∧ j ≤ zs.length ∧ Hid (Below w10.heap.size w10 wr)) (fun i _ => zs.length - (intOf i).toNat)
    case atStart => exact ⟨0, rfl, Nat.zero_le _, Lib.hid (Below.refl _ _)⟩
    case round =>
      obtain ⟨j, rfl, hjl, BR⟩ := hrel
      by_cases hlt : j < zs.length
      · obtain ⟨b, o, hp, hcell⟩ := IN.out
        have hc9 := hcell j hlt
        replace hp := some_of_ints hp hlt
        subst hp
        obtain ⟨z, hz⟩ : ∃ z, z = zs[j] := ⟨_, rfl⟩
        rw [← hz] at hc9
        have hzm : z ∈ zs := by rw [hz]; exact List.getElem_mem hlt
        have ZR : Hid (-9223372036854775808 ≤ z ∧ z ≤ 9223372036854775807) := Lib.hid (by
          rw [ZE.out, numsOf_mem] at hzm
          obtain ⟨x, hx, _, h2⟩ := hzm
          obtain ⟨y, hy, rfl⟩ := List.mem_map.1 hx
          rw [h2]
          exact nodes_wf _ OK6.out y hy)
        have hb10 : b < w10.heap.size := World.block_lt_of_cell? _ _ hc9
        have CZ := Lib.hid hc9
        have c9 := ((stays BR.out).1 _ _ hb10).trans hc9
        clear hcell hc9 hz hzm
        go_wp2_with fail
        refine (V_any _ _).mono ?_
        rintro e wa ⟨rfl, hB⟩
        unfold tv
        replace BR := Lib.hid (BR.out.trans (hB.mono BR.out.size))
        clear hB
        go_wp2_with fail
        refine (apply_any S3 σ3 c2 wa (SB3.out.below BR.out) ⟨1, ⟨#[]⟩, z, none, 0, .nil⟩ (nd_ok (by omega) (by simp [ByteArray.size]) ZR.out (by simp [Ts.len]) (fun _ => rfl) trivial) ⟨0, 0, .inl rfl, trivial⟩ (by simp [Ts.size])).mono ?_
        rintro e wb ⟨hA, hB⟩
        obtain ⟨X1, G1, rfl, hform⟩ := hA.form
        replace BR := Lib.hid (BR.out.trans (hB.mono BR.out.size))
        have HA1 := Lib.hid hform
        clear hA hform hB
        clear c9
        obtain ⟨W11, hW11⟩ : ∃ W, W = wb.alloc (.cells #[.int .u8 X1.k, .string X1.s, .int .i64 X1.n, .slice X1.p X1.kids.len X1.c] 24) := ⟨_, rfl⟩
        have hB : Below wb.heap.size wb W11 := by rw [hW11]; exact (Below.refl _ _).alloc (Nat.le_refl _) _
        obtain ⟨BQ, hBQ⟩ : ∃ b, b = wb.heap.size := ⟨_, rfl⟩
        have XBQ := Lib.hid (by rw [hBQ, hW11]; exact BoxIs.new wb X1 24 : BoxIs BQ X1 W11)
        have ZW11 := Lib.hid hW11
        have HEBQ := Lib.hid hBQ
        replace BR := Lib.hid (BR.out.trans (hB.mono BR.out.size))
        replace HA1 := Lib.hid (HA1.out.below hB)
        clear hB hW11 hBQ
        go_upto_region 14 with fail
        rw [← ZW11.out, ← HEBQ.out]
        have c9 := ((stays BR.out).1 _ _ hb10).trans CZ.out
        go_wp2_with fail
        refine (V_any _ _).mono ?_
        rintro e wc ⟨rfl, hB⟩
        unfold tv
        replace BR := Lib.hid (BR.out.trans (hB.mono BR.out.size))
        replace HA1 := Lib.hid (HA1.out.below hB)
        replace XBQ := Lib.hid (XBQ.out.below hB)
        clear hB
        go_wp2_with fail
        refine (apply_any S4 σ4 c2 wc (SB4.out.below BR.out) ⟨1, ⟨#[]⟩, z, none, 0, .nil⟩ (nd_ok (by omega) (by simp [ByteArray.size]) ZR.out (by simp [Ts.len]) (fun _ => rfl) trivial) ⟨0, 0, .inl rfl, trivial⟩ (by simp [Ts.size])).mono ?_
        rintro e wd ⟨hA, hB⟩
        obtain ⟨X2, G2, rfl, hform⟩ := hA.form
        replace BR := Lib.hid (BR.out.trans (hB.mono BR.out.size))
        replace HA1 := Lib.hid (HA1.out.below hB)
        replace XBQ := Lib.hid (XBQ.out.below hB)
        have HA2 := Lib.hid hform
        clear hA hform hB
        clear c9
        obtain ⟨W12, hW12⟩ : ∃ W, W = wd.alloc (.cells #[.int .u8 X2.k, .string X2.s, .int .i64 X2.n, .slice X2.p X2.kids.len X2.c] 24) := ⟨_, rfl⟩
        have hB : Below wd.heap.size wd W12 := by rw [hW12]; exact (Below.refl _ _).alloc (Nat.le_refl _) _
        obtain ⟨BP, hBP⟩ : ∃ b, b = wd.heap.size := ⟨_, rfl⟩
        have XBP := Lib.hid (by rw [hBP, hW12]; exact BoxIs.new wd X2 24 : BoxIs BP X2 W12)
        have ZW12 := Lib.hid hW12
        have HEBP := Lib.hid hBP
        replace BR := Lib.hid (BR.out.trans (hB.mono BR.out.size))
        replace HA1 := Lib.hid (HA1.out.below hB)
        replace HA2 := Lib.hid (HA2.out.below hB)
        replace XBQ := Lib.hid (XBQ.out.below hB)
        clear hB hW12 hBP
        go_upto_region 15 with fail
        rw [← ZW12.out, ← HEBP.out]
        obtain ⟨hG, htw, hok1, hok2, hl1, hat1, hat2⟩ := ApF.both STW.out SB3.out.ends HA1.out HA2.out
        subst hG
        have SM := Lib.hid (And.intro htw (And.intro hok1 (And.intro hok2 (And.intro hat1 hat2))))
        clear htw hok1 hok2 hat1 hat2 HA1 HA2
        have gg : (G1 != G1) = false := by simp
        have c0 := XBQ.out.c0
        have c1 := XBQ.out.c1
        have c2_ := XBQ.out.c2
        have c3 := XBQ.out.c3
        have d0 := XBP.out.c0
        have d1 := XBP.out.c1
        have d2 := XBP.out.c2
        have d3 := XBP.out.c3
        go_wp2_with fail
        refine (same_twins SM.out.1 SM.out.2.1 SM.out.2.2.1 hl1 W12 SM.out.2.2.2.1 SM.out.2.2.2.2).mono ?_
        rintro e w15 ⟨rfl, hB⟩
        replace BR := Lib.hid (BR.out.trans (hB.mono BR.out.size))
        clear hB c0 c1 c2_ c3 d0 d1 d2 d3 gg
        go_wp2_with fail
        refine ⟨⟨j + 1, by simp, by omega, BR⟩, ?_⟩
        simp only [intOf]
        omega
      · have hje : j = zs.length := by omega
        subst hje
        replace BW := Lib.hid (BW.out.trans (BR.out.mono BW.out.size))
        clear BR
        go_wp2_with fail
        refine (wakes4_any _).mono ?_
        rintro e we ⟨rfl, hB⟩
        replace BW := Lib.hid (BW.out.trans (hB.mono BW.out.size))
        clear hB
        go_wp2
        go_ret
        exact ⟨rfl, BW.out⟩


end Go.Proofs.Ytflomdnjabgnaaa
