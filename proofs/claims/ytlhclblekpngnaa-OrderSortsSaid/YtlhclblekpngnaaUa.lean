/-
  The law TermParts, walked.
-/
import Derived.Test.YtlhclblekpngnaaTz
import Derived.Deep.DeepCutAuto
namespace Go.Proofs.Ytlhclblekpngnaa
open Go.RowKit

theorem great_is (ts : Ts) (hok : ts.ok) (b : Bool) (hb : decide (1000 < manyP ts 0) = b) (w : World) (p : Option Addr) (c : Nat) (hat : Ts.At w p ts) (hl : ts.len ≤ 9223372036854775807) :
    Calls Try.prog 14 #[.slice p ts.len c] w fun e w' => e = .returned (.bool b) ∧ Below w.heap.size w w' := by
  subst hb
  refine (great_any ts w p c hat hok hl).mono ?_
  rintro e w' ⟨rfl, q, rfl⟩
  exact ⟨rfl, below_drewN (Below.refl _ _) q⟩

set_option maxRecDepth 100000 in
set_option maxHeartbeats 1000000 in
theorem termParts_true (w : World) (name : ByteArray) (pa : Option Addr) (ca : Nat) (ta : Ts) (pb : Option Addr) (cb : Nat) (tb : Ts)
    (hname : name.size ≤ 140737488351232) (hoka : ta.ok) (hata : Ts.At w pa ta) (hla : (ta.len ≤ ca ∧ ca ≤ 9223372036854775807) ∧ (pa = none → ca = 0)) (hokb : tb.ok) (hatb : Ts.At w pb tb) (hlb : (tb.len ≤ cb ∧ cb ≤ 9223372036854775807) ∧ (pb = none → cb = 0)) :
    Calls Try.prog 5 #[.string name, .slice pa ta.len ca, .slice pb tb.len cb] w fun e w' => e = .returned (.bool true) ∧ Below w.heap.size w w' := by
  have OKA := Lib.hid hoka
  have OKB := Lib.hid hokb
  have ATA := Lib.hid hata
  have ATB := Lib.hid hatb
  clear hoka hokb hata hatb
  obtain ⟨⟨hca, hca'⟩, hpa⟩ := hla
  obtain ⟨⟨hcb, hcb'⟩, hpb⟩ := hlb
  go_enter Try.func5, Try.ntmps5
  by_cases hga : decide (1000 < manyP ta 0) = true
  · go_wp2_with fail
    refine (great_is ta OKA.out true hga w pa ca ATA.out (by omega)).mono ?_
    rintro e w1 ⟨rfl, hB1⟩
    clear hga
    go_wp2_with fail
    refine (wakes_any _).mono ?_
    rintro e w2 ⟨rfl, hB2⟩
    go_wp2
    go_ret
    exact ⟨rfl, hB1.trans (hB2.mono hB1.size)⟩
  rw [Bool.not_eq_true] at hga
  by_cases hgb : decide (1000 < manyP tb 0) = true
  · go_wp2_with fail
    refine (great_is ta OKA.out false hga w pa ca ATA.out (by omega)).mono ?_
    rintro e w1 ⟨rfl, hB1⟩
    clear hga
    go_wp2_with fail
    refine (great_is tb OKB.out true hgb w1 pb cb (ATB.out.below hB1) (by omega)).mono ?_
    rintro e w2 ⟨rfl, hB2⟩
    replace hB2 := hB1.trans (hB2.mono hB1.size)
    clear hgb
    go_wp2_with fail
    refine (wakes_any _).mono ?_
    rintro e w3 ⟨rfl, hB3⟩
    go_wp2
    go_ret
    exact ⟨rfl, hB2.trans (hB3.mono hB2.size)⟩
  rw [Bool.not_eq_true] at hgb
  have hsa := small_of_many hga
  have hsb := small_of_many hgb
  have hla := Ts.len_size ta
  have hlb := Ts.len_size tb
  by_cases ha0 : ((ta.len : Int) == 0) = true
  · go_wp2_with fail
    refine (great_is ta OKA.out false hga w pa ca ATA.out (by omega)).mono ?_
    rintro e w1 ⟨rfl, hB1⟩
    clear hga
    go_wp2_with fail
    refine (great_is tb OKB.out false hgb w1 pb cb (ATB.out.below hB1) (by omega)).mono ?_
    rintro e w2 ⟨rfl, hB2⟩
    replace hB2 := hB1.trans (hB2.mono hB1.size)
    clear hgb
    go_wp2_with fail
    refine (wakes_any _).mono ?_
    rintro e w3 ⟨rfl, hB3⟩
    go_wp2
    go_ret
    exact ⟨rfl, hB2.trans (hB3.mono hB2.size)⟩
  rw [Bool.not_eq_true] at ha0
  by_cases hb0 : ((tb.len : Int) == 0) = true
  · go_wp2_with fail
    refine (great_is ta OKA.out false hga w pa ca ATA.out (by omega)).mono ?_
    rintro e w1 ⟨rfl, hB1⟩
    clear hga
    go_wp2_with fail
    refine (great_is tb OKB.out false hgb w1 pb cb (ATB.out.below hB1) (by omega)).mono ?_
    rintro e w2 ⟨rfl, hB2⟩
    replace hB2 := hB1.trans (hB2.mono hB1.size)
    clear hgb
    go_wp2_with fail
    refine (wakes_any _).mono ?_
    rintro e w3 ⟨rfl, hB3⟩
    go_wp2
    go_ret
    exact ⟨rfl, hB2.trans (hB3.mono hB2.size)⟩
  rw [Bool.not_eq_true] at hb0
  go_wp2_with fail
  refine (great_is ta OKA.out false hga w pa ca ATA.out (by omega)).mono ?_
  rintro e w1 ⟨rfl, hB1⟩
  clear hga
  go_wp2_with fail
  refine (great_is tb OKB.out false hgb w1 pb cb (ATB.out.below hB1) (by omega)).mono ?_
  rintro e w2 ⟨rfl, hB2⟩
  replace hB2 := hB1.trans (hB2.mono hB1.size)
  clear hgb hB1
  go_wp2_with fail
  refine (F_any name ta (by omega) OKA.out w2 pa ca (ATA.out.below hB2)).mono ?_
  rintro e w3 ⟨ua, qa, da, rfl, hat3, htw3, hok3, hcl3, hpn3, hB3⟩
  rw [if_neg (by simpa using ha0)]
  unfold tv
  replace hB3 := hB2.trans (hB3.mono hB2.size)
  have AT3 := Lib.hid hat3.at
  have TW3 := Lib.hid htw3
  have OK3 := Lib.hid hok3
  clear hat3 htw3 hok3 hB2
  go_wp2_with fail
  refine (F_any name tb (by omega) OKB.out w3 pb cb (ATB.out.below hB3)).mono ?_
  rintro e w4 ⟨ub, qb, db, rfl, hat4, htw4, hok4, hcl4, hpn4, hB4⟩
  rw [if_neg (by simpa using hb0)]
  unfold tv
  replace AT3 := Lib.hid (AT3.out.below hB4)
  replace hB4 := hB3.trans (hB4.mono hB3.size)
  have AT4 := Lib.hid hat4.at
  have TW4 := Lib.hid htw4
  have OK4 := Lib.hid hok4
  clear hat4 htw4 hok4 hB3
  have BB := Lib.hid hB4
  go_upto_region 4 with fail
  go_cut [9, 10, 11, 12, 13] (fun s9 s10 s11 s12 s13 wx => s9 = .int .i64 1 ∧ s10 = .int .i64 1 ∧ s11 = .bool (decide (ta.len ≤ 16) && nameB name) ∧ s12 = .bool true ∧ s13 = .bool (decide (ta.len = tb.len)) ∧
    TT w w4.heap.size 4 name 0 qa da ua wx ∧ TT w (w4.heap.size + 1) 4 name 0 qb db ub wx)
  case first =>
    obtain ⟨W5, hW5, hs5, hA5, hT5, hU5⟩ := box2 w4 #[Value.int IntKind.u8 4, Value.string name, Value.int IntKind.i64 0, Value.slice qa ua.len da] #[Value.int IntKind.u8 4, Value.string name, Value.int IntKind.i64 0, Value.slice qb ub.len db] 24 24
    rw [← hW5]
    have Z5 := Lib.hid hW5
    clear hW5
    have hB5 : Below w.heap.size w W5 := BB.out.trans (hA5.mono BB.out.size)
    have TA : TT w w4.heap.size 4 name 0 qa da ua W5 := ⟨hB5, by omega, hT5 0 _ rfl, hT5 1 _ rfl, hT5 2 _ rfl, hT5 3 _ rfl, AT3.out.below hA5⟩
    have TB : TT w (w4.heap.size + 1) 4 name 0 qb db ub W5 := ⟨hB5, by omega, hU5 0 _ rfl, hU5 1 _ rfl, hU5 2 _ rfl, hU5 3 _ rfl, AT4.out.below hA5⟩
    clear hB5 hA5 hT5 hU5
    have hll : ((ta.len : Int) == (tb.len : Int)) = decide (ta.len = tb.len) := by
      rw [Bool.eq_iff_iff]; simp; omega
    by_cases h16 : ta.len ≤ 16
    · have h16' : decide ((ta.len : Int) ≤ 16) = true := decide_eq_true (by omega)
      have hd : decide (ta.len ≤ 16) = true := decide_eq_true h16
      have HD := Lib.hid hd
      clear hd
      go_wp2_with fail
      refine (A_any name W5).mono ?_
      rintro e w6 ⟨rfl, hB6⟩
      unfold tv
      replace TA := TA.below hB6
      replace TB := TB.below hB6
      clear hB6
      go_wp2_with fail
      refine (tGood_any .nil (by simp [Ts.size]) trivial 3 name 0 w6 none 0 hname ⟨0, 0, .inl rfl, trivial⟩).mono ?_
      rintro e w7 ⟨rfl, hB7⟩
      rw [good_name]
      replace TA := TA.below hB7
      replace TB := TB.below hB7
      clear hB7
      go_wp2_with fail
      all_goals go_meet
      all_goals exact ⟨rfl, rfl, by rw [HD.out, Bool.true_and], rfl, by rw [← hll], TA, TB⟩
    · have h16' : decide ((ta.len : Int) ≤ 16) = false := decide_eq_false (by omega)
      have hd : decide (ta.len ≤ 16) = false := decide_eq_false h16
      have HD := Lib.hid hd
      clear hd h16
      go_wp2_with fail
      all_goals go_meet
      all_goals exact ⟨rfl, rfl, by rw [HD.out, Bool.false_and], rfl, by rw [← hll], TA, TB⟩
  case rest =>
    obtain ⟨rfl, rfl, rfl, rfl, rfl, TA, TB⟩ := hcut
    obtain ⟨ba, oa, hpa', hla'⟩ := ATA.out
    obtain ⟨bb, ob, hpb', hlb'⟩ := ATB.out
    obtain ⟨g0, hg0⟩ : ∃ g0, g0 = (decide (ta.len ≤ 16) && nameB name) := ⟨_, rfl⟩
    rw [← hg0]
    have G0 := Lib.hid hg0
    have LA := Lib.hid hla'
    have LB := Lib.hid hlb'
    have PA := Lib.hid hpa'
    have PB := Lib.hid hpb'
    clear hg0 hla' hlb' hpa' hpb' AT3 AT4
    go_wp2_with fail
    go_loopw [9, 10, 11, 12, 13, 14] (fun s9 s10 s11 s12 s13 s14 wr => ∃ (j a d : Nat) (g r m : Bool), j ≤ ta.len ∧ s14 = .int .i64 j ∧ s9 = .int .i64 a ∧ s10 = .int .i64 d ∧ s11 = .bool g ∧ s12 = .bool r ∧ s13 = .bool m ∧
        Hid (a + (ta.drop j).size = 1 + ta.size) ∧ Hid (1 ≤ d ∧ max d (1 + depthL (ta.drop j)) = 1 + depthL ta) ∧ Hid ((g && goodL 64 (ta.drop j)) = (g0 && goodL 64 ta)) ∧ Hid ((r && noVar (nodesOf (ta.drop j))) = noVar (nodesOf ta)) ∧
        Hid ((m && alike (ta.drop j) (tb.drop j)) = alike ta tb ∧ (m = true → ta.len = tb.len)) ∧ TT w w4.heap.size 4 name 0 qa da ua wr ∧ TT w (w4.heap.size + 1) 4 name 0 qb db ub wr) (fun _ _ _ _ _ i _ => ta.len - (intOf i).toNat)
    case atStart =>
      refine ⟨0, 1, 1, g0, true, decide (ta.len = tb.len), Nat.zero_le _, rfl, rfl, rfl, rfl, rfl, rfl, Lib.hid rfl, Lib.hid ⟨Nat.le_refl _, ?_⟩, Lib.hid rfl, Lib.hid (by rw [Bool.true_and]; rfl), Lib.hid ⟨?_, by simp⟩, TA, TB⟩
      · show max 1 (1 + depthL ta) = _
        omega
      · show (decide (ta.len = tb.len) && alike ta tb) = alike ta tb
        cases hal : alike ta tb with
        | false => simp
        | true => simp [alike_len ta tb hal]
    case round =>
      rename_i wr _
      obtain ⟨j, a, d, g, r, m, hj, rfl, rfl, rfl, rfl, rfl, rfl, RA, RD, RG, RR, RM, TA, TB⟩ := hrel
      by_cases hlt : j < ta.len
      · have hpa' := Ts.some_of PA.out hlt
        subst hpa'
        obtain ⟨k, s, n, p, c, kids, rest, HD, EL, hsz, hoke⟩ := Ts.elem LA.out TA.B OKA.out hlt
        have OKE := Lib.hid hoke
        have hra := RA.out
        have hrd := RD.out
        rw [HD.out] at hra hrd
        simp only [Ts.size, depthL] at hra hrd
        have hds := depthL_size kids
        have hda := depthL_size ta
        obtain ⟨_, hs, hn, hc, hpn, hokk, _⟩ := hoke
        have OKK := Lib.hid hokk
        have hk : 0 ≤ k ∧ k ≤ 255 := OKE.out.1
        clear hokk
        have c0 := EL.c0
        have c1 := EL.c1
        have c2 := EL.c2
        have c3 := EL.c3
        go_wp2_with fail
        refine (tsize_any kids (by omega) OKK.out k s n wr p c hk hs hn hc hpn EL.tat).mono ?_
        rintro e v1 ⟨rfl, hB⟩
        replace TA := TA.below hB
        replace TB := TB.below hB
        replace EL := EL.below hB
        clear c0 c1 c2 c3 hB
        have c0 := EL.c0
        have c1 := EL.c1
        have c2 := EL.c2
        have c3 := EL.c3
        go_wp2_with fail
        refine (tdepth_any _ kids (Nat.lt_succ_self _) (by omega) OKK.out k s n v1 p c EL.tat).mono ?_
        rintro e v2 ⟨rfl, hB⟩
        replace TA := TA.below hB
        replace TB := TB.below hB
        replace EL := EL.below hB
        clear c0 c1 c2 c3 hB
        go_upto_region 10 with fail
        obtain ⟨d', hd1, hd2⟩ : ∃ d' : Nat, (if (d : Int) < 1 + (↑(depthL kids) + 1) then 1 + ((depthL kids : Int) + 1) else (d : Int)) = (d' : Int) ∧ d' = max d (1 + (depthL kids + 1)) := by
          by_cases h : (d : Int) < 1 + (↑(depthL kids) + 1)
          · exact ⟨_, by rw [if_pos h, show max d (1 + (depthL kids + 1)) = 1 + (depthL kids + 1) by omega]; omega, rfl⟩
          · exact ⟨_, by rw [if_neg h, show max d (1 + (depthL kids + 1)) = d by omega], rfl⟩
        rw [hd1]
        have HDD := Lib.hid hd2
        clear hd1 hd2
        go_cut [11] from 51 to 105 (fun s11 wx => s11 = .bool (g && goodB 64 k s n kids) ∧ TT w w4.heap.size 4 name 0 qa da ua wx ∧ TT w (w4.heap.size + 1) 4 name 0 qb db ub wx ∧ El ba (oa + j * 4) k s n p c kids wx)
        case first =>
          cases g with
          | false =>
            go_wp2_with fail
            go_meet
            exact ⟨rfl, TA, TB, EL⟩
          | true =>
            have c0 := EL.c0
            have c1 := EL.c1
            have c2 := EL.c2
            have c3 := EL.c3
            go_wp2_with fail
            refine (tGood_any kids (by omega) OKK.out k s n v2 p c hs EL.tat).mono ?_
            rintro e v3 ⟨rfl, hB⟩
            replace TA := TA.below hB
            replace TB := TB.below hB
            replace EL := EL.below hB
            clear c0 c1 c2 c3 hB
            go_wp2_with fail
            go_meet
            exact ⟨by rw [Bool.true_and], TA, TB, EL⟩
        case rest =>
          obtain ⟨rfl, TA, TB, EL⟩ := hcut
          go_upto_region 11 with fail
          go_cut [12] from 51 to 105 (fun s12 wx => s12 = .bool (r && noVar (nodesOf (.cons k s n p c kids .nil))) ∧ TT w w4.heap.size 4 name 0 qa da ua wx ∧ TT w (w4.heap.size + 1) 4 name 0 qb db ub wx ∧ El ba (oa + j * 4) k s n p c kids wx)
          case first =>
            cases r with
            | false =>
              go_wp2_with fail
              go_meet
              exact ⟨rfl, TA, TB, EL⟩
            | true =>
              have c0 := EL.c0
              have c1 := EL.c1
              have c2 := EL.c2
              have c3 := EL.c3
              go_wp2_with fail
              refine (tground_any kids (by omega) OKK.out k s n _ p c hk hs hn hc hpn EL.tat).mono ?_
              rintro e v4 ⟨rfl, hB⟩
              replace TA := TA.below hB
              replace TB := TB.below hB
              replace EL := EL.below hB
              clear c0 c1 c2 c3 hB
              go_wp2_with fail
              go_meet
              exact ⟨by rw [Bool.true_and], TA, TB, EL⟩
          case rest =>
            obtain ⟨rfl, TA, TB, EL⟩ := hcut
            have sr := Ts.drop_succ j ta HD.out
            have hra' : a + (kids.size + 1) + (ta.drop (j + 1)).size = 1 + ta.size := by rw [sr]; omega
            have hrd' : 1 ≤ d' ∧ max d' (1 + depthL (ta.drop (j + 1))) = 1 + depthL ta := by rw [sr, HDD.out]; have := RD.out.1; omega
            have hrg' : ((g && goodB 64 k s n kids) && goodL 64 (ta.drop (j + 1))) = (g0 && goodL 64 ta) := by rw [sr, ← RG.out, HD.out, goodL_step, Bool.and_assoc]
            have hrr' : ((r && noVar (nodesOf (.cons k s n p c kids .nil))) && noVar (nodesOf (ta.drop (j + 1)))) = noVar (nodesOf ta) := by rw [sr, ← RR.out, HD.out, noVar_two k s n p c kids rest, Bool.and_assoc]
            have RA' := Lib.hid hra'
            have RD' := Lib.hid hrd'
            have RG' := Lib.hid hrg'
            have RR' := Lib.hid hrr'
            have SR := Lib.hid sr
            clear hra' hrd' hrg' hrr' sr
            cases m with
            | false =>
              go_wp2_with fail
              go_quiet (fail)
              go_wp2
              go_roundw
              case rel =>
                refine ⟨j + 1, a + (kids.size + 1), d', _, _, false, by omega, by go_num, by go_num, rfl, rfl, rfl, rfl, RA', RD', RG', RR', Lib.hid ⟨?_, by simp⟩, TA.drewN _, TB.drewN _⟩
                have := RM.out.1
                rw [Bool.false_and] at this ⊢
                exact this
              case measure => simp [intOf]; omega
            | true =>
              have hll := RM.out.2 rfl
              have hlt' : j < tb.len := by omega
              have hpb' := Ts.some_of PB.out hlt'
              subst hpb'
              have hTB := TA.B
              obtain ⟨k', s', n', p', c', kids', rest', HD', EL', hsz', hoke'⟩ := Ts.elem LB.out hTB OKB.out hlt'
              have OKE' := Lib.hid hoke'
              have hc' := hoke'.2.2.2.1
              clear hoke' hTB hll
              have c0 := EL.c0
              have c1 := EL.c1
              have c2 := EL.c2
              have c3 := EL.c3
              have g0 := EL'.c0
              have g1 := EL'.c1
              have g2 := EL'.c2
              have g3 := EL'.c3
              go_wp2_with fail
              go_still_tail 16, (by kernel_rfl)
              replace TA : TT w w4.heap.size 4 name 0 qa da ua wc.drew := TA.drewN 1
              replace TB : TT w (w4.heap.size + 1) 4 name 0 qb db ub wc.drew := TB.drewN 1
              replace EL : El ba (oa + j * 4) k s n p c kids wc.drew := EL.below (below_drewN (Below.refl _ _) 1)
              replace EL' : El bb (ob + j * 4) k' s' n' p' c' kids' wc.drew := EL'.below (below_drewN (Below.refl _ _) 1)
              change wpList _ _ _ _ _ wc.drew
              generalize wc.drew = wz at TA TB EL EL' ⊢
              clear c0 c1 c2 c3 g0 g1 g2 g3
              have c0 := EL.c0
              have c1 := EL.c1
              have c2 := EL.c2
              have c3 := EL.c3
              have g0 := EL'.c0
              have g1 := EL'.c1
              have g2 := EL'.c2
              have g3 := EL'.c3
              go_wp2_with fail
              refine (tsame_any _ kids kids' (Nat.lt_succ_self _) OKK.out OKE'.out.2.2.2.2.2.1 (by omega) (by omega) k k' s s' n n' wz p p' c c' EL.tat EL'.tat).mono ?_
              rintro e v5 ⟨rfl, hB⟩
              replace TA := TA.below hB
              replace TB := TB.below hB
              clear c0 c1 c2 c3 g0 g1 g2 g3 hB
              go_wp2
              go_roundw
              case rel =>
                have sr' := Ts.drop_succ j tb HD'.out
                refine ⟨j + 1, a + (kids.size + 1), d', _, _, headAlike k k' s s' n n' && alike kids kids', by omega, by go_num, by go_num, rfl, rfl, rfl, rfl, RA', RD', RG', RR', Lib.hid ⟨?_, fun _ => RM.out.2 trivial⟩, TA, TB⟩
                have := RM.out.1
                rw [Bool.true_and, HD.out, HD'.out] at this
                rw [← this, SR.out, sr']
                simp only [alike, headAlike, Bool.and_assoc]
              case measure => simp [intOf]; omega
      · have hke : j = ta.len := by omega
        have hd0 := Ts.drop_end hlt
        have hra := RA.out
        have hrd := RD.out
        have hrg := RG.out
        have hrr := RR.out
        have hrm := RM.out.1
        rw [hd0] at hra hrd hrg hrr hrm
        simp only [Ts.size, depthL] at hra hrd
        rw [show goodL 64 .nil = true from by simp [goodL, depthL, shapeL], Bool.and_true] at hrg
        rw [show noVar (nodesOf .nil) = true from rfl, Bool.and_true] at hrr
        have hal : m = alike ta tb := by
          cases m with
          | false => rw [Bool.false_and] at hrm; exact hrm
          | true =>
            have hl := RM.out.2 rfl
            rw [Ts.drop_end (ts := tb) (j := j) (by omega)] at hrm
            rw [← hrm]; rfl
        have hae : a = 1 + ta.size := by omega
        have hde : d = 1 + depthL ta := by omega
        have hsu : ua.size = ta.size := Ts.twin_size _ _ TW3.out
        have hlu : ua.len = ta.len := Ts.twin_len _ _ TW3.out
        have hlv : ub.len = tb.len := Ts.twin_len _ _ TW4.out
        have hsv : ub.size = tb.size := Ts.twin_size _ _ TW4.out
        have hdu : depthL ua = depthL ta := Ts.twin_depth _ _ TW3.out
        have hta := Ts.len_size ta
        have hdta := depthL_size ta
        have VS : Hid (((ua.size + 1 : Nat) : Int) = (a : Int)) := Lib.hid (by omega)
        have VD : Hid (((depthL ua + 1 : Nat) : Int) = (d : Int)) := Lib.hid (by omega)
        have VN : Hid (noVar (nodesOf (.cons 4 name 0 qa da ua .nil)) = r) := Lib.hid ((noVar_str TW3.out).trans hrr.symm)
        have VA : Hid ((headAlike 4 4 name name 0 0 && alike ua ub) = m) := Lib.hid (by rw [twin_alike_both TW3.out TW4.out, hal]; simp [headAlike])
        have hg64 : goodB 64 4 name 0 ua = (g && decide ((d : Int) ≤ 64)) := by
          have h0 : 0 < ta.len := by have := beq_eq_false_iff_ne.1 ha0; omega
          have h1 := good_parts name ta h0
          have h2 : goodB 64 4 name 0 ua = goodB 64 4 name 0 ta := by simp only [goodB, Ts.twin_depth _ _ TW3.out, Ts.twin_shape _ _ TW3.out, Ts.twin_len _ _ TW3.out]
          rw [h2, h1, ← G0.out, ← hrg]
          congr 1
          rw [Bool.eq_iff_iff]
          simp only [decide_eq_true_eq]
          omega
        have hsu' : ua.size ≤ 1000 := by omega
        have hlu' : ua.len ≤ 1000 := by omega
        have hlv' : ub.len ≤ 1000 := by omega
        have hde' : d ≤ 1001 := by omega
        have hae' : a ≤ 1001 := by omega
        clear hra hrd hrg hrr hrm hal hae hde hlu hlv hsu hsv hdu hd0 hke hta hdta
        cases g with
        | false =>
          have VG : Hid (goodB 64 4 name 0 ua = false) := Lib.hid (by rw [hg64]; rfl)
          clear hg64
          have k0 := TA.c0
          have k1 := TA.c1
          have k2 := TA.c2
          have k3 := TA.c3
          go_wp2_with fail
          refine (tsize_any ua (by omega) OK3.out 4 name 0 _ qa da (by omega) hname (by omega) hcl3 hpn3 TA.tat).mono ?_
          rintro e v1 ⟨rfl, hB⟩
          rw [VS.out]
          replace TA := TA.below hB
          replace TB := TB.below hB
          clear k0 k1 k2 k3 hB
          have k0 := TA.c0
          have k1 := TA.c1
          have k2 := TA.c2
          have k3 := TA.c3
          go_wp2_with fail
          refine (tdepth_any _ ua (Nat.lt_succ_self _) (by omega) OK3.out 4 name 0 _ qa da TA.tat).mono ?_
          rintro e v2 ⟨rfl, hB⟩
          rw [VD.out]
          replace TA := TA.below hB
          replace TB := TB.below hB
          clear k0 k1 k2 k3 hB
          have k0 := TA.c0
          have k1 := TA.c1
          have k2 := TA.c2
          have k3 := TA.c3
          go_wp2_with fail
          refine (tGood_any ua (by omega) OK3.out 4 name 0 _ qa da hname TA.tat).mono ?_
          rintro e v3 ⟨rfl, hB⟩
          rw [VG.out]
          replace TA := TA.below hB
          replace TB := TB.below hB
          clear k0 k1 k2 k3 hB
          have k0 := TA.c0
          have k1 := TA.c1
          have k2 := TA.c2
          have k3 := TA.c3
          go_wp2_with fail
          refine (tground_any ua (by omega) OK3.out 4 name 0 _ qa da (by omega) hname (by omega) hcl3 hpn3 TA.tat).mono ?_
          rintro e v4 ⟨rfl, hB⟩
          rw [VN.out]
          replace TA := TA.below hB
          replace TB := TB.below hB
          clear k0 k1 k2 k3 hB
          have k0 := TA.c0
          have k1 := TA.c1
          have k2 := TA.c2
          have k3 := TA.c3
          have m0 := TB.c0
          have m1 := TB.c1
          have m2 := TB.c2
          have m3 := TB.c3
          go_wp2_with fail
          refine (tsame_any _ ua ub (Nat.lt_succ_self _) OK3.out OK4.out (by omega) (by omega) 4 4 name name 0 0 _ qa qb da db TA.tat TB.tat).mono ?_
          rintro e v5 ⟨rfl, hB⟩
          rw [VA.out]
          replace TA := TA.below hB
          replace TB := TB.below hB
          clear k0 k1 k2 k3 m0 m1 m2 m3 hB
          have k0 := TA.c0
          have k1 := TA.c1
          have k2 := TA.c2
          have k3 := TA.c3
          go_wp2_with fail
          have hl1 : ListOf (.cons 4 name 0 qa da ua .nil) (.slice (some ⟨v5.heap.size, 0, none⟩) 1 1) (v5.alloc (.cells #[.int .u8 4, .string name, .int .i64 0, .slice qa ua.len da] 24)) := ListOf.one TA.tat _
          have hokF : Ts.ok (.cons 4 name 0 qa da ua .nil) := ⟨by omega, hname, by omega, hcl3, hpn3, OK3.out, trivial⟩
          refine (vars_of (by simp [Ts.size]; omega) hokF hl1).mono ?_
          rintro e v6 ⟨u, rfl, hu, hB⟩
          rw [nodes_str TW3.out] at hu
          replace TA := (TA.alloc _).below hB
          obtain ⟨p6, c6, rfl, hi6, hc6, hc6'⟩ := hu
          have HI6 := Lib.hid hi6
          clear hl1 hi6 hB k0 k1 k2 k3
          go_wp2_with fail
          refine (tvars_any ta (by omega) OKA.out v6 pa ca ⟨hca, hca'⟩ (ATA.out.below TA.B)).mono ?_
          rintro e v7 ⟨v, rfl, hrow, hB⟩
          obtain ⟨p7, c7, rfl, hi7, hc7, hc7'⟩ := ints_of_row hrow
          replace TA := TA.below hB
          have HI7 := Lib.hid hi7
          replace HI6 := Lib.hid (HI6.out.below hB)
          have hnl := numsOf_length ((nodesOf ta).map Ts.mark)
          rw [List.length_map, nodesOf_length] at hnl
          clear hi7 hrow hB
          go_wp2_with fail
          refine (numbers_at _ _ _ _ rfl rfl v7 p6 p7 c6 c7 (by omega) (by omega) HI6.out HI7.out).mono ?_
          rintro e v8 ⟨rfl, q, hq⟩
          rw [decide_eq_true rfl]
          replace TA := TA.below (W' := v8) (by rw [hq]; exact below_drewN (Below.refl _ _) q)
          clear hq
          go_wp2_with fail
          refine (wakes_any _).mono ?_
          rintro e v9 ⟨rfl, hB⟩
          replace TA := TA.below hB
          go_wp2
          go_ret
          exact ⟨rfl, TA.B⟩
        | true =>
          have VG : Hid (goodB 64 4 name 0 ua = decide ((d : Int) ≤ 64)) := Lib.hid (by rw [hg64]; rfl)
          clear hg64
          have k0 := TA.c0
          have k1 := TA.c1
          have k2 := TA.c2
          have k3 := TA.c3
          go_wp2_with fail
          refine (tsize_any ua (by omega) OK3.out 4 name 0 _ qa da (by omega) hname (by omega) hcl3 hpn3 TA.tat).mono ?_
          rintro e v1 ⟨rfl, hB⟩
          rw [VS.out]
          replace TA := TA.below hB
          replace TB := TB.below hB
          clear k0 k1 k2 k3 hB
          have k0 := TA.c0
          have k1 := TA.c1
          have k2 := TA.c2
          have k3 := TA.c3
          go_wp2_with fail
          refine (tdepth_any _ ua (Nat.lt_succ_self _) (by omega) OK3.out 4 name 0 _ qa da TA.tat).mono ?_
          rintro e v2 ⟨rfl, hB⟩
          rw [VD.out]
          replace TA := TA.below hB
          replace TB := TB.below hB
          clear k0 k1 k2 k3 hB
          have k0 := TA.c0
          have k1 := TA.c1
          have k2 := TA.c2
          have k3 := TA.c3
          go_wp2_with fail
          refine (tGood_any ua (by omega) OK3.out 4 name 0 _ qa da hname TA.tat).mono ?_
          rintro e v3 ⟨rfl, hB⟩
          rw [VG.out]
          replace TA := TA.below hB
          replace TB := TB.below hB
          clear k0 k1 k2 k3 hB
          have k0 := TA.c0
          have k1 := TA.c1
          have k2 := TA.c2
          have k3 := TA.c3
          go_wp2_with fail
          refine (tground_any ua (by omega) OK3.out 4 name 0 _ qa da (by omega) hname (by omega) hcl3 hpn3 TA.tat).mono ?_
          rintro e v4 ⟨rfl, hB⟩
          rw [VN.out]
          replace TA := TA.below hB
          replace TB := TB.below hB
          clear k0 k1 k2 k3 hB
          have k0 := TA.c0
          have k1 := TA.c1
          have k2 := TA.c2
          have k3 := TA.c3
          have m0 := TB.c0
          have m1 := TB.c1
          have m2 := TB.c2
          have m3 := TB.c3
          go_wp2_with fail
          refine (tsame_any _ ua ub (Nat.lt_succ_self _) OK3.out OK4.out (by omega) (by omega) 4 4 name name 0 0 _ qa qb da db TA.tat TB.tat).mono ?_
          rintro e v5 ⟨rfl, hB⟩
          rw [VA.out]
          replace TA := TA.below hB
          replace TB := TB.below hB
          clear k0 k1 k2 k3 m0 m1 m2 m3 hB
          have k0 := TA.c0
          have k1 := TA.c1
          have k2 := TA.c2
          have k3 := TA.c3
          go_wp2_with fail
          have hl1 : ListOf (.cons 4 name 0 qa da ua .nil) (.slice (some ⟨v5.heap.size, 0, none⟩) 1 1) (v5.alloc (.cells #[.int .u8 4, .string name, .int .i64 0, .slice qa ua.len da] 24)) := ListOf.one TA.tat _
          have hokF : Ts.ok (.cons 4 name 0 qa da ua .nil) := ⟨by omega, hname, by omega, hcl3, hpn3, OK3.out, trivial⟩
          refine (vars_of (by simp [Ts.size]; omega) hokF hl1).mono ?_
          rintro e v6 ⟨u, rfl, hu, hB⟩
          rw [nodes_str TW3.out] at hu
          replace TA := (TA.alloc _).below hB
          obtain ⟨p6, c6, rfl, hi6, hc6, hc6'⟩ := hu
          have HI6 := Lib.hid hi6
          clear hl1 hi6 hB k0 k1 k2 k3
          go_wp2_with fail
          refine (tvars_any ta (by omega) OKA.out v6 pa ca ⟨hca, hca'⟩ (ATA.out.below TA.B)).mono ?_
          rintro e v7 ⟨v, rfl, hrow, hB⟩
          obtain ⟨p7, c7, rfl, hi7, hc7, hc7'⟩ := ints_of_row hrow
          replace TA := TA.below hB
          have HI7 := Lib.hid hi7
          replace HI6 := Lib.hid (HI6.out.below hB)
          have hnl := numsOf_length ((nodesOf ta).map Ts.mark)
          rw [List.length_map, nodesOf_length] at hnl
          clear hi7 hrow hB
          go_wp2_with fail
          refine (numbers_at _ _ _ _ rfl rfl v7 p6 p7 c6 c7 (by omega) (by omega) HI6.out HI7.out).mono ?_
          rintro e v8 ⟨rfl, q, hq⟩
          rw [decide_eq_true rfl]
          replace TA := TA.below (W' := v8) (by rw [hq]; exact below_drewN (Below.refl _ _) q)
          clear hq
          go_wp2_with fail
          refine (wakes_any _).mono ?_
          rintro e v9 ⟨rfl, hB⟩
          replace TA := TA.below hB
          go_wp2
          go_ret
          exact ⟨rfl, TA.B⟩
end Go.Proofs.Ytlhclblekpngnaa
