import Derived.Test.YtflomdnjabgnaaaDp
import Derived.Test.YtflomdnjabgnaaaTc
import Derived.ProofKit
import Derived.SizedLaws
import Derived.ChangeBears2
import Derived.OpenShut
/-
  The law RenameVariants, walked. (Written by gen_dq.py.)
-/
namespace Go.Proofs.Ytflomdnjabgnaaa
open Go.RowKit

set_option maxRecDepth 100000 in
set_option maxHeartbeats 16000000 in
theorem renameVariants_w (w : World) (pa : Option Addr) (ca : Nat) (ta : Ts) (pb : Option Addr) (cb : Nat) (tb : Ts) (pc : Option Addr) (cc : Nat) (tc : Ts) (d : Int) (hoka : ta.ok) (hata : Ts.At w pa ta) (hla : (ta.len ≤ ca ∧ ca ≤ 9223372036854775807) ∧ (pa = none → ca = 0)) (hokb : tb.ok) (hatb : Ts.At w pb tb) (hlb : (tb.len ≤ cb ∧ cb ≤ 9223372036854775807) ∧ (pb = none → cb = 0)) (hokc : tc.ok) (hatc : Ts.At w pc tc) (hlc : (tc.len ≤ cc ∧ cc ≤ 9223372036854775807) ∧ (pc = none → cc = 0)) (hd : -9223372036854775808 ≤ d ∧ d ≤ 9223372036854775807) :
    Calls Try.prog 12 #[.slice pa ta.len ca, .slice pb tb.len cb, .slice pc tc.len cc, .int .i64 d] w fun e w' => e = .returned (.bool true) ∧ Below w.heap.size w w' := by
  have OKA := Lib.hid hoka
  have ATA := Lib.hid hata
  have OKB := Lib.hid hokb
  have ATB := Lib.hid hatb
  have OKC := Lib.hid hokc
  have ATC := Lib.hid hatc
  obtain ⟨⟨hca, hca'⟩, -⟩ := hla
  obtain ⟨⟨hcb, hcb'⟩, -⟩ := hlb
  obtain ⟨⟨hcc, hcc'⟩, -⟩ := hlc
  clear hoka hata hokb hatb hokc hatc
  have BW := Lib.hid (Below.refl w.heap.size w)
  obtain ⟨ga, hga⟩ : ∃ g, g = decide (1000 < manyP ta 0) := ⟨_, rfl⟩
  have GA := Lib.hid hga
  obtain ⟨gb, hgb⟩ : ∃ g, g = decide (1000 < manyP tb 0) := ⟨_, rfl⟩
  have GB := Lib.hid hgb
  obtain ⟨gc, hgc⟩ : ∃ g, g = decide (1000 < manyP tc 0) := ⟨_, rfl⟩
  have GC := Lib.hid hgc
  clear hga hgb hgc
  go_enter Try.func12, Try.ntmps12
  by_cases h1 : (ta.len : Int) > 20
  · go_wp2_with fail
    refine (wakes5_any _).mono ?_
    rintro e we ⟨rfl, hB⟩
    replace BW := Lib.hid (BW.out.trans (hB.mono BW.out.size))
    clear hB
    go_wp2
    go_ret
    exact ⟨rfl, BW.out⟩
  by_cases h2 : (tb.len : Int) > 20
  · go_wp2_with fail
    refine (wakes5_any _).mono ?_
    rintro e we ⟨rfl, hB⟩
    replace BW := Lib.hid (BW.out.trans (hB.mono BW.out.size))
    clear hB
    go_wp2
    go_ret
    exact ⟨rfl, BW.out⟩
  by_cases h3 : (tc.len : Int) > 20
  · go_wp2_with fail
    refine (wakes5_any _).mono ?_
    rintro e we ⟨rfl, hB⟩
    replace BW := Lib.hid (BW.out.trans (hB.mono BW.out.size))
    clear hB
    go_wp2
    go_ret
    exact ⟨rfl, BW.out⟩
  go_wp2_with fail
  refine (great_is ta OKA.out ga GA.out.symm w pa ca ATA.out (by omega)).mono ?_
  rintro e w1 ⟨rfl, hI⟩
  replace BW := Lib.hid (BW.out.trans (hI.mono BW.out.size))
  clear hI
  cases ga with
  | true =>
    go_wp2_with fail
    refine (wakes5_any _).mono ?_
    rintro e we ⟨rfl, hB⟩
    replace BW := Lib.hid (BW.out.trans (hB.mono BW.out.size))
    clear hB
    go_wp2
    go_ret
    exact ⟨rfl, BW.out⟩

  | false =>
  go_wp2_with fail
  refine (great_is tb OKB.out gb GB.out.symm w1 pb cb (ATB.out.below BW.out) (by omega)).mono ?_
  rintro e w2 ⟨rfl, hI⟩
  replace BW := Lib.hid (BW.out.trans (hI.mono BW.out.size))
  clear hI
  cases gb with
  | true =>
    go_wp2_with fail
    refine (wakes5_any _).mono ?_
    rintro e we ⟨rfl, hB⟩
    replace BW := Lib.hid (BW.out.trans (hB.mono BW.out.size))
    clear hB
    go_wp2
    go_ret
    exact ⟨rfl, BW.out⟩

  | false =>
  go_wp2_with fail
  refine (great_is tc OKC.out gc GC.out.symm w2 pc cc (ATC.out.below BW.out) (by omega)).mono ?_
  rintro e w3 ⟨rfl, hI⟩
  replace BW := Lib.hid (BW.out.trans (hI.mono BW.out.size))
  clear hI
  cases gc with
  | true =>
    go_wp2_with fail
    refine (wakes5_any _).mono ?_
    rintro e we ⟨rfl, hB⟩
    replace BW := Lib.hid (BW.out.trans (hB.mono BW.out.size))
    clear hB
    go_wp2
    go_ret
    exact ⟨rfl, BW.out⟩

  | false =>
  by_cases h4 : d < 0
  · go_wp2_with fail
    refine (wakes5_any _).mono ?_
    rintro e we ⟨rfl, hB⟩
    replace BW := Lib.hid (BW.out.trans (hB.mono BW.out.size))
    clear hB
    go_wp2
    go_ret
    exact ⟨rfl, BW.out⟩
  by_cases h5 : d ≥ 4611686018427387904
  · go_wp2_with fail
    refine (wakes5_any _).mono ?_
    rintro e we ⟨rfl, hB⟩
    replace BW := Lib.hid (BW.out.trans (hB.mono BW.out.size))
    clear hB
    go_wp2
    go_ret
    exact ⟨rfl, BW.out⟩
  have hsa := small_of_many GA.out.symm
  have hsb := small_of_many GB.out.symm
  have hsc := small_of_many GC.out.symm
  have hl20 : ta.len ≤ 20 := by omega
  have hd0 : 0 ≤ d ∧ d < 4611686018427387904 := by omega
  have DD := Lib.hid hd0
  go_wp2_with fail
  go_loopw [9] (fun s9 wr => ∃ j : Nat, s9 = .int .i64 j ∧ j ≤ ta.len ∧ Hid (shapeL (ta.drop j) = true → shapeL ta = true) ∧ Hid (Below w3.heap.size w3 wr)) (fun i _ => ta.len - (intOf i).toNat)
  case atStart => exact ⟨0, rfl, Nat.zero_le _, Lib.hid (fun h => by cases ta <;> exact h), Lib.hid (Below.refl _ _)⟩
  case round =>
    obtain ⟨j, rfl, hjl, GJ, BR⟩ := hrel
    replace BW := Lib.hid (BW.out.trans (BR.out.mono BW.out.size))
    by_cases hlt : j < ta.len
    · obtain ⟨b, o, hXp, hlies⟩ := ATA.out.below BW.out
      replace hXp := Ts.some_of hXp hlt
      obtain ⟨k, s, n, p, c, kids, rest, hdr, hEl, hsz1, hok1⟩ := Ts.elem hlies (Below.refl _ _) OKA.out hlt
      subst hXp
      have hdn : ta.drop (j + 1) = rest := Ts.drop_succ j _ hdr.out
      have DR := Lib.hid hdr.out
      have DN := Lib.hid hdn
      have XK := Lib.hid hok1
      have XA := Lib.hid hEl.tat
      have c0 := hEl.c0
      have c1 := hEl.c1
      have c2 := hEl.c2
      have c3 := hEl.c3
      clear hlies hdr hEl hok1 hdn
      go_wp2_with fail
      refine (rGood_any kids (by omega) XK.out.2.2.2.2.2.1 k s n wr p c XK.out.2.1 XA.out).mono ?_
      rintro e w5 ⟨rfl, hI⟩
      obtain ⟨gx, hgx⟩ : ∃ g, g = goodB 64 k s n kids := ⟨_, rfl⟩
      rw [← hgx]
      have GX := Lib.hid hgx
      clear hgx c0 c1 c2 c3
      cases gx with
      | false =>
        replace BW := Lib.hid (BW.out.trans (hI.mono BW.out.size))
        clear hI
        go_wp2_with fail
        refine (wakes5_any _).mono ?_
        rintro e we ⟨rfl, hB⟩
        replace BW := Lib.hid (BW.out.trans (hB.mono BW.out.size))
        clear hB
        go_wp2
        go_ret
        exact ⟨rfl, BW.out⟩

      | true =>
        replace BR := Lib.hid (BR.out.trans (hI.mono BR.out.size))
        clear hI
        have GJ2 : Hid (shapeL (ta.drop (j + 1)) = true → shapeL ta = true) := Lib.hid (fun h => GJ.out (by
          rw [DR.out]
          rw [DN.out] at h
          have h2 : shapeL kids = true ∧ headB k s n kids.len = true := by
            have h1 := GX.out.symm
            unfold goodB at h1
            simp only [Bool.and_eq_true] at h1
            exact h1.2
          simp only [shapeL, h2.1, h2.2, h, Bool.and_self]))
        go_wp2
        go_roundw
        case rel => exact ⟨j + 1, by go_num, by omega, GJ2, BR⟩
        case measure => simp [intOf]; omega
    · have hje : j = ta.len := by omega
      subst hje
      have SH : Hid (shapeL ta = true) := Lib.hid (GJ.out (by rw [Ts.drop_end hlt]; rfl))
      clear BR GJ
      go_wp2_with fail
      refine (canon_any ta (by omega) OKA.out wr pa ca (ATA.out.below BW.out)).mono ?_
      rintro e w9 ⟨us, q9, rfl, hatu, htwu, hoku, hqu, hI⟩
      have hul0 : us.len = ta.len := by rw [Ts.twin_len _ _ htwu, renT_len]
      have HUL := Lib.hid hul0
      have hul1 : us.len ≤ ta.len := by omega
      have hul2 : ta.len ≤ us.len := by omega
      have hus : us.size ≤ 1000 := by rw [Ts.twin_size _ _ htwu, renT_size]; omega
      have TWU := Lib.hid htwu
      have OKU := Lib.hid hoku
      have UA := Lib.hid hatu.at
      clear htwu hoku hatu hqu
      replace BW := Lib.hid (BW.out.trans (hI.mono BW.out.size))
      clear hI
      have cc9 : ((us.len : Int) != (ta.len : Int)) = false := by rw [hul0]; simp
      clear hul0
      go_wp2_with fail
      go_loopw [11, 12] (fun s11 s12 wr2 => ∃ (j : Nat) (acc : Ts), s12 = .int .i64 j ∧ j ≤ ta.len ∧ Hid (acc.len = j) ∧ Hid (OwnL w9.heap.size 24 s11 acc wr2) ∧ Hid (∀ rs, Ts.twin rs (renT (stepS (d + 1000)) (us.drop j) ()).1 → Ts.twin (acc.app rs) (renT (stepS (d + 1000)) us ()).1) ∧ Hid (Below w9.heap.size w9 wr2)) (fun _ i _ => ta.len - (intOf i).toNat)
      case atStart => exact ⟨0, .nil, rfl, Nat.zero_le _, Lib.hid rfl, Lib.hid (OwnL.start _ _ _), Lib.hid (fun rs h => by cases us <;> exact h), Lib.hid (Below.refl _ _)⟩
      case round =>
        obtain ⟨j, acc, rfl, hjl2, HAL, ROW, AP, BR⟩ := hrel
        have hal1 : acc.len ≤ j := by have := HAL.out; omega
        have hal3 : j ≤ acc.len := by have := HAL.out; omega
        by_cases hlt2 : j < ta.len
        · have hju0 : j < us.len := by omega
          obtain ⟨b, o, hXp, hlies⟩ := UA.out.below BR.out
          replace hXp := Ts.some_of hXp hju0
          obtain ⟨k, s, n, p, c, kids, rest, hdr, hEl, hsz1, hok1⟩ := Ts.elem hlies (Below.refl _ _) OKU.out hju0
          subst hXp
          have hdn : us.drop (j + 1) = rest := Ts.drop_succ j _ hdr.out
          have DR := Lib.hid hdr.out
          have DN := Lib.hid hdn
          have XK := Lib.hid hok1
          have XA := Lib.hid hEl.tat
          have c0 := hEl.c0
          have c1 := hEl.c1
          have c2 := hEl.c2
          have c3 := hEl.c3
          have hju : j < us.len := by omega
          have hBR := BR.out.size
          clear hlies hdr hEl hok1 hdn
          go_wp2_with fail
          refine (shift_any kids (d + 1000) (by omega) k s n wr p c XK.out XA.out).mono ?_
          rintro e w5 ⟨us4, q4, c4, rfl, hat4, htw4, hok4, hI⟩
          unfold tv
          have AT4 := Lib.hid hat4
          have TW4 := Lib.hid htw4
          have OK4 := Lib.hid hok4
          have RO5 := Lib.hid (ROW.out.below hI)
          have B5 := Lib.hid (BR.out.trans (hI.mono BR.out.size))
          have hI5 := hI.size
          clear hat4 htw4 hok4 hI c0 c1 c2 c3
          obtain ⟨i0, hi, hz0, hz1, hz2⟩ := info_parts infoTerm
          have hown0 : (w5.alloc (.cells (#[.int .u8 k, .string s, .int .i64 (shV (d + 1000) k n), .slice q4 us4.len c4] : Array Value) 24)).ownsRow w9.heap.size 24 4 u11 acc.len (cellsL acc) := (RO5.out.1).alloc _
          obtain ⟨W6, hW6, hs6, hB6, hc6, -⟩ := alloc_new w5 #[.int .u8 k, .string s, .int .i64 (shV (d + 1000) k n), .slice q4 us4.len c4] 24
          have hnews : ∀ i v, (cellsL (.cons k s (shV (d + 1000) k n) q4 c4 us4 .nil))[i]? = some v → (w5.alloc (.cells (#[.int .u8 k, .string s, .int .i64 (shV (d + 1000) k n), .slice q4 us4.len c4] : Array Value) 24)).cell? ((⟨w5.heap.size, 0, none⟩ : Addr).add i) = some v := by
            intro i v hiv
            rw [Go.WideShapes.add_plain, Nat.zero_add, ← hW6]
            exact hc6 i v (by simpa [cellsL] using hiv)
          have hU1 : (Ts.cons k s (shV (d + 1000) k n) q4 c4 us4 .nil).len = 1 := rfl
          have hcu : (cellsL (.cons k s (shV (d + 1000) k n) q4 c4 us4 .nil)).length = 1 * 4 := by rw [cellsL_length, hU1]
          have HN := Lib.hid hnews
          have HO := Lib.hid hown0
          clear hW6 hs6 hB6 hc6 hnews hown0
          go_wp2_with (at_builtin; refine wpList_append_own_at _ rfl _ _ 22 rfl w9.heap.size 24 i0 zeroTerm 4 56 Try.underlying22 hi hz0 hz1 hz2 rfl (by decide) _ _ _ rfl HO.out ⟨w5.heap.size, 0, none⟩ 1 1 (cellsL (.cons k s (shV (d + 1000) k n) q4 c4 us4 .nil)) rfl hcu HN.out (cellsL_one (.cons k s (shV (d + 1000) k n) q4 c4 us4 .nil)) (by unfold maxLen; omega) (by omega) (by simp; omega) ?_; intro v5 W7 hown2 hgrow2 hnil hob; have X := Lib.hid (And.intro hown2 (And.intro hgrow2 hob)); clear hown2 hgrow2 hnil hob)
          have OW7 := Lib.hid (RO5.out.push (m := wr.heap.size) X.out.1 X.out.2.1 X.out.2.2 hU1 (U := (.cons k s (shV (d + 1000) k n) q4 c4 us4 .nil)) ⟨OK4.out.1, OK4.out.2.1, OK4.out.2.2.1, OK4.out.2.2.2.1, OK4.out.2.2.2.2.1, OK4.out.2.2.2.2.2.1, trivial⟩ ⟨AtB_atP AT4.out, trivial⟩ (by omega) (fun q' hq' => (ROW.out.1.lt q' hq').2))
          have BW7 := Lib.hid ((B5.out.alloc (by omega) _).grown X.out.2.1 (by simp; omega) (fun q' hq' => (ROW.out.1.lt q' hq').1))
          have AP2 : Hid (∀ rs, Ts.twin rs (renT (stepS (d + 1000)) (us.drop (j + 1)) ()).1 → Ts.twin ((acc.app (.cons k s (shV (d + 1000) k n) q4 c4 us4 .nil)).app rs) (renT (stepS (d + 1000)) us ()).1) := Lib.hid (fun rs hrs => by
            rw [app_assoc]
            refine AP.out _ ?_
            rw [DR.out]
            rw [DN.out] at hrs
            exact ⟨rfl, rfl, (by unfold shV stepS; split <;> rfl), TW4.out, hrs⟩)
          have hal2 : Hid ((acc.app (.cons k s (shV (d + 1000) k n) q4 c4 us4 .nil)).len = j + 1) := Lib.hid (by rw [app_len, HAL.out]; rfl)
          clear RO5 B5 AT4 TW4 OK4 HN HO X
          go_roundw
          case rel => exact ⟨j + 1, _, by go_num, by omega, hal2, OW7, AP2, BW7⟩
          case measure => simp [intOf]; omega
        · have hje : j = ta.len := by omega
          have hvs : Ts.twin acc (renT (stepS (d + 1000)) us ()).1 := by
            have h := AP.out .nil (by rw [Ts.drop_end (by omega)]; exact trivial)
            rw [app_nil] at h
            exact h
          have CA : Hid (Cans ta us acc (d + 1000)) := Lib.hid ⟨SH.out, hsa, by have := DD.out; omega, TWU.out, hvs⟩
          obtain ⟨qv, cv, hs11, hva, hvc, -⟩ := ROW.out.read
          subst hs11
          have VA := Lib.hid (AtP_at hva)
          have OKV := Lib.hid ROW.out.2.1
          have hvz : acc.size ≤ 1000 := by rw [Ts.twin_size _ _ hvs, renT_size]; omega
          have hvl : acc.len ≤ 1000 := by have := Ts.len_size acc; omega
          replace UA := Lib.hid (UA.out.below BR.out)
          replace BW := Lib.hid (BW.out.trans (BR.out.mono BW.out.size))
          clear AP ROW hva hvs BR
          obtain ⟨x, hx⟩ : ∃ x, x = varB ta tb [] [] := ⟨_, rfl⟩
          obtain ⟨y, hy⟩ : ∃ x, x = varB tb tc [] [] := ⟨_, rfl⟩
          obtain ⟨z, hz⟩ : ∃ x, x = varB ta tc [] [] := ⟨_, rfl⟩
          have XE := Lib.hid hx
          have YE := Lib.hid hy
          have ZE := Lib.hid hz
          have XS : Hid (varB tb ta [] [] = x) := Lib.hid (by rw [hx, varB_symm])
          have XT : Hid (x = true → y = true → z = true) := Lib.hid (fun h1 h2 => by rw [hz]; exact varB_trans (hx.symm.trans h1) (hy.symm.trans h2))
          clear hx hy hz
          go_wp2_with fail
          refine (variants_any ta tb (by omega) (by omega) OKA.out OKB.out wr pa pb ca cb (ATA.out.below BW.out) (ATB.out.below BW.out)).mono ?_
          rintro e w13 ⟨rfl, hI⟩
          rw [← XE.out]
          replace UA := Lib.hid (UA.out.below hI)
          replace VA := Lib.hid (VA.out.below hI)
          replace BW := Lib.hid (BW.out.trans (hI.mono BW.out.size))
          clear hI
          go_wp2_with fail
          refine (variants_any tb tc (by omega) (by omega) OKB.out OKC.out w13 pb pc cb cc (ATB.out.below BW.out) (ATC.out.below BW.out)).mono ?_
          rintro e w14 ⟨rfl, hI⟩
          rw [← YE.out]
          replace UA := Lib.hid (UA.out.below hI)
          replace VA := Lib.hid (VA.out.below hI)
          replace BW := Lib.hid (BW.out.trans (hI.mono BW.out.size))
          clear hI
          go_wp2_with fail
          refine (variants_any ta tc (by omega) (by omega) OKA.out OKC.out w14 pa pc ca cc (ATA.out.below BW.out) (ATC.out.below BW.out)).mono ?_
          rintro e w15 ⟨rfl, hI⟩
          rw [← ZE.out]
          replace UA := Lib.hid (UA.out.below hI)
          replace VA := Lib.hid (VA.out.below hI)
          replace BW := Lib.hid (BW.out.trans (hI.mono BW.out.size))
          clear hI
          go_upto_region 17 with fail
          go_cut [138] from 98 to 138 (fun s138 wx => s138 = .bool false ∧ Hid (Ts.At wx q9 us) ∧ Hid (Ts.At wx qv acc) ∧ Hid (Below w.heap.size w wx))
          case first =>
            go_wp2_with fail
            refine (variants_any tb ta (by omega) (by omega) OKB.out OKA.out w15 pb pa cb ca (ATB.out.below BW.out) (ATA.out.below BW.out)).mono ?_
            rintro e w16 ⟨rfl, hI⟩
            rw [XS.out]
            replace UA := Lib.hid (UA.out.below hI)
            replace VA := Lib.hid (VA.out.below hI)
            replace BW := Lib.hid (BW.out.trans (hI.mono BW.out.size))
            clear hI
            clear XS XE YE ZE
            cases x with
            | false =>
              go_wp2_with fail
              refine (variants_any ta us (by omega) (by omega) OKA.out OKU.out w16 pa q9 ca us.len (ATA.out.below BW.out) UA.out).mono ?_
              rintro e w17 ⟨rfl, hI⟩
              rw [CA.out.var_us]
              replace UA := Lib.hid (UA.out.below hI)
              replace VA := Lib.hid (VA.out.below hI)
              replace BW := Lib.hid (BW.out.trans (hI.mono BW.out.size))
              clear hI
              go_wp2_with fail
              refine (variants_any ta acc (by omega) (by omega) OKA.out OKV.out w17 pa qv ca cv (ATA.out.below BW.out) VA.out).mono ?_
              rintro e w18 ⟨rfl, hI⟩
              rw [CA.out.var_vs]
              replace UA := Lib.hid (UA.out.below hI)
              replace VA := Lib.hid (VA.out.below hI)
              replace BW := Lib.hid (BW.out.trans (hI.mono BW.out.size))
              clear hI
              go_wp2_with fail
              refine (canon_any us (by omega) OKU.out w18 q9 us.len UA.out).mono ?_
              rintro e w19 ⟨us2, r2, rfl, hat2, htw2, hok2, -, hI⟩
              have A2 : Hid (alike us2 us = true) := Lib.hid (alike_twin (twin_trans htw2 (by rw [CA.out.own]; exact Ts.twin_symm _ _ CA.out.hu)))
              have hl2 : us2.len ≤ 1000000 := by have h1 := Ts.twin_len _ _ htw2; rw [renT_len] at h1; omega
              have AT2 := Lib.hid hat2.at
              have OK2 := Lib.hid hok2
              clear hat2 htw2 hok2
              replace UA := Lib.hid (UA.out.below hI)
              replace VA := Lib.hid (VA.out.below hI)
              replace BW := Lib.hid (BW.out.trans (hI.mono BW.out.size))
              clear hI
              go_wp2_with fail
              refine (all_any _ us2 us (Nat.lt_succ_self _) OK2.out OKU.out (by omega) (by omega) w19 r2 q9 us2.len us.len AT2.out UA.out).mono ?_
              rintro e w20 ⟨rfl, hI⟩
              rw [A2.out]
              clear AT2 OK2 A2 hl2
              replace UA := Lib.hid (UA.out.below hI)
              replace VA := Lib.hid (VA.out.below hI)
              replace BW := Lib.hid (BW.out.trans (hI.mono BW.out.size))
              clear hI
              go_wp2_with fail
              refine (canon_any acc (by omega) OKV.out w20 qv cv VA.out).mono ?_
              rintro e w21 ⟨us3, r3, rfl, hat2, htw2, hok2, -, hI⟩
              have A2 : Hid (alike us3 us = true) := Lib.hid (alike_twin (twin_trans htw2 (by rw [CA.out.up]; exact Ts.twin_symm _ _ CA.out.hu)))
              have hl2 : us3.len ≤ 1000000 := by have h1 := Ts.twin_len _ _ htw2; rw [renT_len] at h1; omega
              have AT2 := Lib.hid hat2.at
              have OK2 := Lib.hid hok2
              clear hat2 htw2 hok2
              replace UA := Lib.hid (UA.out.below hI)
              replace VA := Lib.hid (VA.out.below hI)
              replace BW := Lib.hid (BW.out.trans (hI.mono BW.out.size))
              clear hI
              go_wp2_with fail
              refine (all_any _ us3 us (Nat.lt_succ_self _) OK2.out OKU.out (by omega) (by omega) w21 r3 q9 us3.len us.len AT2.out UA.out).mono ?_
              rintro e w22 ⟨rfl, hI⟩
              rw [A2.out]
              clear AT2 OK2 A2 hl2
              replace UA := Lib.hid (UA.out.below hI)
              replace VA := Lib.hid (VA.out.below hI)
              replace BW := Lib.hid (BW.out.trans (hI.mono BW.out.size))
              clear hI
              go_wp2
              go_meet
              exact ⟨rfl, UA, VA, BW⟩
            | true =>
              cases y with
              | false =>
                go_wp2_with fail
                refine (variants_any ta us (by omega) (by omega) OKA.out OKU.out w16 pa q9 ca us.len (ATA.out.below BW.out) UA.out).mono ?_
                rintro e w17 ⟨rfl, hI⟩
                rw [CA.out.var_us]
                replace UA := Lib.hid (UA.out.below hI)
                replace VA := Lib.hid (VA.out.below hI)
                replace BW := Lib.hid (BW.out.trans (hI.mono BW.out.size))
                clear hI
                go_wp2_with fail
                refine (variants_any ta acc (by omega) (by omega) OKA.out OKV.out w17 pa qv ca cv (ATA.out.below BW.out) VA.out).mono ?_
                rintro e w18 ⟨rfl, hI⟩
                rw [CA.out.var_vs]
                replace UA := Lib.hid (UA.out.below hI)
                replace VA := Lib.hid (VA.out.below hI)
                replace BW := Lib.hid (BW.out.trans (hI.mono BW.out.size))
                clear hI
                go_wp2_with fail
                refine (canon_any us (by omega) OKU.out w18 q9 us.len UA.out).mono ?_
                rintro e w19 ⟨us2, r2, rfl, hat2, htw2, hok2, -, hI⟩
                have A2 : Hid (alike us2 us = true) := Lib.hid (alike_twin (twin_trans htw2 (by rw [CA.out.own]; exact Ts.twin_symm _ _ CA.out.hu)))
                have hl2 : us2.len ≤ 1000000 := by have h1 := Ts.twin_len _ _ htw2; rw [renT_len] at h1; omega
                have AT2 := Lib.hid hat2.at
                have OK2 := Lib.hid hok2
                clear hat2 htw2 hok2
                replace UA := Lib.hid (UA.out.below hI)
                replace VA := Lib.hid (VA.out.below hI)
                replace BW := Lib.hid (BW.out.trans (hI.mono BW.out.size))
                clear hI
                go_wp2_with fail
                refine (all_any _ us2 us (Nat.lt_succ_self _) OK2.out OKU.out (by omega) (by omega) w19 r2 q9 us2.len us.len AT2.out UA.out).mono ?_
                rintro e w20 ⟨rfl, hI⟩
                rw [A2.out]
                clear AT2 OK2 A2 hl2
                replace UA := Lib.hid (UA.out.below hI)
                replace VA := Lib.hid (VA.out.below hI)
                replace BW := Lib.hid (BW.out.trans (hI.mono BW.out.size))
                clear hI
                go_wp2_with fail
                refine (canon_any acc (by omega) OKV.out w20 qv cv VA.out).mono ?_
                rintro e w21 ⟨us3, r3, rfl, hat2, htw2, hok2, -, hI⟩
                have A2 : Hid (alike us3 us = true) := Lib.hid (alike_twin (twin_trans htw2 (by rw [CA.out.up]; exact Ts.twin_symm _ _ CA.out.hu)))
                have hl2 : us3.len ≤ 1000000 := by have h1 := Ts.twin_len _ _ htw2; rw [renT_len] at h1; omega
                have AT2 := Lib.hid hat2.at
                have OK2 := Lib.hid hok2
                clear hat2 htw2 hok2
                replace UA := Lib.hid (UA.out.below hI)
                replace VA := Lib.hid (VA.out.below hI)
                replace BW := Lib.hid (BW.out.trans (hI.mono BW.out.size))
                clear hI
                go_wp2_with fail
                refine (all_any _ us3 us (Nat.lt_succ_self _) OK2.out OKU.out (by omega) (by omega) w21 r3 q9 us3.len us.len AT2.out UA.out).mono ?_
                rintro e w22 ⟨rfl, hI⟩
                rw [A2.out]
                clear AT2 OK2 A2 hl2
                replace UA := Lib.hid (UA.out.below hI)
                replace VA := Lib.hid (VA.out.below hI)
                replace BW := Lib.hid (BW.out.trans (hI.mono BW.out.size))
                clear hI
                go_wp2
                go_meet
                exact ⟨rfl, UA, VA, BW⟩
              | true =>
                have hz1 := XT.out rfl rfl
                subst hz1
                go_wp2_with fail
                refine (variants_any ta us (by omega) (by omega) OKA.out OKU.out w16 pa q9 ca us.len (ATA.out.below BW.out) UA.out).mono ?_
                rintro e w17 ⟨rfl, hI⟩
                rw [CA.out.var_us]
                replace UA := Lib.hid (UA.out.below hI)
                replace VA := Lib.hid (VA.out.below hI)
                replace BW := Lib.hid (BW.out.trans (hI.mono BW.out.size))
                clear hI
                go_wp2_with fail
                refine (variants_any ta acc (by omega) (by omega) OKA.out OKV.out w17 pa qv ca cv (ATA.out.below BW.out) VA.out).mono ?_
                rintro e w18 ⟨rfl, hI⟩
                rw [CA.out.var_vs]
                replace UA := Lib.hid (UA.out.below hI)
                replace VA := Lib.hid (VA.out.below hI)
                replace BW := Lib.hid (BW.out.trans (hI.mono BW.out.size))
                clear hI
                go_wp2_with fail
                refine (canon_any us (by omega) OKU.out w18 q9 us.len UA.out).mono ?_
                rintro e w19 ⟨us2, r2, rfl, hat2, htw2, hok2, -, hI⟩
                have A2 : Hid (alike us2 us = true) := Lib.hid (alike_twin (twin_trans htw2 (by rw [CA.out.own]; exact Ts.twin_symm _ _ CA.out.hu)))
                have hl2 : us2.len ≤ 1000000 := by have h1 := Ts.twin_len _ _ htw2; rw [renT_len] at h1; omega
                have AT2 := Lib.hid hat2.at
                have OK2 := Lib.hid hok2
                clear hat2 htw2 hok2
                replace UA := Lib.hid (UA.out.below hI)
                replace VA := Lib.hid (VA.out.below hI)
                replace BW := Lib.hid (BW.out.trans (hI.mono BW.out.size))
                clear hI
                go_wp2_with fail
                refine (all_any _ us2 us (Nat.lt_succ_self _) OK2.out OKU.out (by omega) (by omega) w19 r2 q9 us2.len us.len AT2.out UA.out).mono ?_
                rintro e w20 ⟨rfl, hI⟩
                rw [A2.out]
                clear AT2 OK2 A2 hl2
                replace UA := Lib.hid (UA.out.below hI)
                replace VA := Lib.hid (VA.out.below hI)
                replace BW := Lib.hid (BW.out.trans (hI.mono BW.out.size))
                clear hI
                go_wp2_with fail
                refine (canon_any acc (by omega) OKV.out w20 qv cv VA.out).mono ?_
                rintro e w21 ⟨us3, r3, rfl, hat2, htw2, hok2, -, hI⟩
                have A2 : Hid (alike us3 us = true) := Lib.hid (alike_twin (twin_trans htw2 (by rw [CA.out.up]; exact Ts.twin_symm _ _ CA.out.hu)))
                have hl2 : us3.len ≤ 1000000 := by have h1 := Ts.twin_len _ _ htw2; rw [renT_len] at h1; omega
                have AT2 := Lib.hid hat2.at
                have OK2 := Lib.hid hok2
                clear hat2 htw2 hok2
                replace UA := Lib.hid (UA.out.below hI)
                replace VA := Lib.hid (VA.out.below hI)
                replace BW := Lib.hid (BW.out.trans (hI.mono BW.out.size))
                clear hI
                go_wp2_with fail
                refine (all_any _ us3 us (Nat.lt_succ_self _) OK2.out OKU.out (by omega) (by omega) w21 r3 q9 us3.len us.len AT2.out UA.out).mono ?_
                rintro e w22 ⟨rfl, hI⟩
                rw [A2.out]
                clear AT2 OK2 A2 hl2
                replace UA := Lib.hid (UA.out.below hI)
                replace VA := Lib.hid (VA.out.below hI)
                replace BW := Lib.hid (BW.out.trans (hI.mono BW.out.size))
                clear hI
                go_wp2
                go_meet
                exact ⟨rfl, UA, VA, BW⟩
          case rest =>
            obtain ⟨rfl, hu1, hv1, hb1⟩ := hcut
            replace UA := hu1
            replace VA := hv1
            replace BW := hb1
            clear hu1 hv1 hb1 XS XE YE ZE XT
            go_wp2_with fail
            refine (new_any wc).mono ?_
            rintro e w30 ⟨rfl, hS, hI⟩
            have SN := Lib.hid hS
            clear hS
            obtain ⟨S0, hS0⟩ : ∃ S, S = wc.heap.size := ⟨_, rfl⟩
            rw [← hS0] at SN ⊢
            clear hS0
            replace UA := Lib.hid (UA.out.below hI)
            replace VA := Lib.hid (VA.out.below hI)
            replace BW := Lib.hid (BW.out.trans (hI.mono BW.out.size))
            clear hI
            obtain ⟨ρ1, r1, ho⟩ := CA.out.un
            have HO := Lib.hid ho
            clear ho
            go_wp2_with fail
            refine (ListsU_any S0 w30 SN.out q9 us us.len qv acc cv (ent_list OKU.out UA.out ⟨Nat.le_refl _, by omega⟩ hus) (ent_list OKV.out VA.out hvc hvz)).mono ?_
            rintro e w31 ⟨p5, rfl, hp5, hI⟩
            rw [HO.out] at hp5 ⊢
            obtain ⟨S1, σ1, hS1, _, hsub1⟩ := hp5
            have SB1 := Lib.hid hsub1
            subst hS1
            simp only [okU_ok, gU_ok]
            clear hsub1 HO
            replace BW := Lib.hid (BW.out.trans (hI.mono BW.out.size))
            clear hI
            obtain ⟨N, hN⟩ : ∃ N, N = (numsOf ((nodesOf ta).map Ts.mark)).length := ⟨_, rfl⟩
            rw [← hN] at SB1
            have NE := Lib.hid hN
            clear hN
            go_wp2_with fail
            refine (len_any S1 σ1 N w31 SB1.out).mono ?_
            rintro e we ⟨rfl, hwe⟩
            have h8 := hwe.symm
            subst h8
            go_wp2_with fail
            refine (tvars_any ta (by omega) OKA.out _ pa ca ⟨hca, hca'⟩ (ATA.out.below BW.out)).mono ?_
            rintro e w32 ⟨v32, rfl, hrow, hI⟩
            obtain ⟨p14, cp, rfl, hin, hcp⟩ := ints_of_row hrow
            rw [← NE.out]
            clear hrow hin
            replace BW := Lib.hid (BW.out.trans (hI.mono BW.out.size))
            clear hI
            go_wp2_with fail
            refine (wakes5_any _).mono ?_
            rintro e we ⟨rfl, hB⟩
            replace BW := Lib.hid (BW.out.trans (hB.mono BW.out.size))
            clear hB
            go_wp2
            go_ret
            exact ⟨rfl, BW.out⟩

end Go.Proofs.Ytflomdnjabgnaaa
/-
  What a caller may hand in, opened: a term, a list of terms, a text, a number.
-/
namespace Go.Proofs.Ytflomdnjabgnaaa
open Go.ChangeShapes Go.WideShapes Go.ChangeAt Go.RowKit

theorem own : ownKnob Try.prog.godebug = none := by kernel_rfl
theorem laidOut : laidOutB Try.prog = true := by kernel_rfl

section
variable {H : Type} {enc : TypeId × Value → H}

theorem weights_le {l : List Nat} (h : l.all (· ≤ reachBytes) = true) : ∀ m ∈ l, m ≤ reachBytes := by simpa using h

theorem open_term {w : World} {v : Value} {d : DataW H} {p : List MemPlace} (hv : ∃ cs, v = .agg cs ∧ cs.size = Try.prog.cellsOf 24) (h : DataW.Trod enc Try.prog w 0 (fun _ => true) true 24 v d p)
    (hw : ∀ m ∈ d.weights Try.prog 24, m ≤ reachBytes) :
    ∃ (k : Int) (s : ByteArray) (n : Int) (p : Option Addr) (c : Nat) (ts : Ts), v = tv k s n p ts.len c ∧ Ts.At w p ts ∧ Ts.ok (.cons k s n p c ts .nil) := by
  obtain ⟨cs, rfl, hcs⟩ := hv
  obtain ⟨fuel, hf⟩ := h
  obtain ⟨k, s, n, v, y, m, _, hl, hk, hs, hn, hr, hwr⟩ := open_term_cells hf hw
  obtain ⟨p, ts, c, rfl, hat, hok, hc, hcap, hp⟩ := open_terms m hr hwr
  refine ⟨k, s, n, p, c, ts, ?_, hat, hk, hs, hn, ⟨hc, by omega⟩, hp, hok, trivial⟩
  have : cs.toList = [.int .u8 k, .string s, .int .i64 n, .slice p ts.len c] := by simpa [Value.cells] using hl
  unfold tv
  obtain ⟨l⟩ := cs
  simp only at this
  rw [this]

theorem open_list {w : World} {v : Value} {d : DataW H} {p : List MemPlace} (hv : ∃ a len cap, v = .slice a len cap) (h : DataW.Trod enc Try.prog w 0 (fun _ => true) true 22 v d p)
    (hw : ∀ m ∈ d.weights Try.prog 22, m ≤ reachBytes) :
    ∃ (p : Option Addr) (ts : Ts) (c : Nat), v = .slice p ts.len c ∧ Ts.At w p ts ∧ ts.ok ∧ (ts.len ≤ c ∧ c ≤ 9223372036854775807) ∧ (p = none → c = 0) := by
  obtain ⟨a, len, cap, rfl⟩ := hv
  obtain ⟨fuel, hf⟩ := h
  obtain ⟨p, ts, c, e, hat, hok, hc, hcap, hp⟩ := open_terms fuel (v := .slice a len cap) (by simpa [Value.cells] using hf) hw
  exact ⟨p, ts, c, e, hat, hok, ⟨hc, by omega⟩, hp⟩

theorem open_num {w : World} {v : Value} {d : DataW H} {p : List MemPlace} (hv : ∃ n, v = .int .i64 n) (h : DataW.Trod enc Try.prog w 0 (fun _ => true) true 2 v d p) :
    ∃ n, v = .int .i64 n ∧ (-9223372036854775808 ≤ n ∧ n ≤ 9223372036854775807) := by
  obtain ⟨n, rfl⟩ := hv
  obtain ⟨fuel, hf⟩ := h
  obtain ⟨n', e, _, w2⟩ := DataW.trod_int Try.underlying2 hf
  simp [Value.cells] at e
  subst e
  exact ⟨_, rfl, i64_of_wf w2⟩

theorem open_str {w : World} {v : Value} {d : DataW H} {p : List MemPlace} (hv : ∃ s, v = .string s) (h : DataW.Trod enc Try.prog w 0 (fun _ => true) true 9 v d p)
    (hw : ∀ m ∈ d.weights Try.prog 9, m ≤ reachBytes) :
    ∃ s, v = .string s ∧ s.size ≤ 140737488351232 := by
  obtain ⟨s, rfl⟩ := hv
  obtain ⟨fuel, hf⟩ := h
  obtain ⟨s', e, hx, _⟩ := DataW.trod_string Try.underlying9 hf
  simp [Value.cells] at e
  subst e
  refine ⟨_, rfl, ?_⟩
  simp only [Prod.mk.injEq] at hx
  have := hw s.data.toList.length (by rw [hx.1]; simp [DataW.weights])
  rw [reach_eq] at this
  simpa using this
end
end Go.Proofs.Ytflomdnjabgnaaa
