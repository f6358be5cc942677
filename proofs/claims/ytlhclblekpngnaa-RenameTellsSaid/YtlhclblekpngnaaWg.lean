/-
  The law RenameTells, walked.
-/
import Derived.Test.YtlhclblekpngnaaWf
import Derived.Test.YtlhclblekpngnaaUd
import Derived.Test.YtlhclblekpngnaaVo
namespace Go.Proofs.Ytlhclblekpngnaa
open Go.RowKit

theorem tells_back {by' k : Int} {s : ByteArray} {n : Int} {pp : Option Addr} {cc : Nat} {kids usx u : Ts} (hok : Ts.ok (.cons k s n pp cc kids .nil)) (hx : Ts.twin usx (renT (stepS by') kids ()).1) (hu : Ts.twin u (renT (stepS (wrap64 (-by'))) usx ()).1) :
    (headAlike k k s s (shN (wrap64 (-by')) k (shN by' k n)) n && alike u kids) = true := by
  rw [shN_back _ _ _ hok.2.2.1, shift_back by' hok.2.2.2.2.2.1 hx hu]
  simp [headAlike]

set_option maxRecDepth 100000 in
set_option maxHeartbeats 20000000 in
theorem renameTells_true (w : World) (p : Option Addr) (c : Nat) (ts : Ts) (q : Option Addr) (d : Nat) (us : Ts) (by' : Int)
    (hok : ts.ok) (hat : Ts.At w p ts) (hlt : ts.len ≤ c ∧ c ≤ 9223372036854775807) (hok' : us.ok) (hat' : Ts.At w q us) (hlu : us.len ≤ d ∧ d ≤ 9223372036854775807) (hb : -9223372036854775808 ≤ by' ∧ by' ≤ 9223372036854775807) :
    Calls Try.prog 12 #[.slice p ts.len c, .slice q us.len d, .int .i64 by'] w fun e w' => e = .returned (.bool true) ∧ Below w.heap.size w w' := by
  have OK := Lib.hid hok
  have AT := Lib.hid hat
  have OK' := Lib.hid hok'
  have AT' := Lib.hid hat'
  clear hok hat hok' hat'
  go_enter Try.func12, Try.ntmps12
  by_cases h20 : (20 : Int) < (ts.len : Int)
  · go_wp2_with fail
    refine (wakes5_any _).mono ?_
    rintro e w2 ⟨rfl, hB⟩
    go_wp2
    go_ret
    exact ⟨rfl, hB⟩
  by_cases h21 : (20 : Int) < (us.len : Int)
  · go_wp2_with fail
    refine (wakes5_any _).mono ?_
    rintro e w2 ⟨rfl, hB⟩
    go_wp2
    go_ret
    exact ⟨rfl, hB⟩
  go_wp2_with fail
  by_cases hg : decide (1000 < manyP ts 0) = true
  · refine (great_is ts OK.out true hg w p c AT.out (by omega)).mono ?_
    rintro e w2 ⟨rfl, hB⟩
    clear hg
    go_wp2_with fail
    refine (wakes5_any _).mono ?_
    rintro e w3 ⟨rfl, hB'⟩
    go_wp2
    go_ret
    exact ⟨rfl, hB.trans (hB'.mono hB.size)⟩
  rw [Bool.not_eq_true] at hg
  have hsz := small_of_many hg
  refine (great_is ts OK.out false hg w p c AT.out (by omega)).mono ?_
  rintro e w2 ⟨rfl, hB⟩
  clear hg
  go_wp2_with fail
  have BB := Lib.hid hB
  replace AT := Lib.hid (AT.out.below (hB.mono (Nat.le_refl _)))
  replace AT' := Lib.hid (AT'.out.below (hB.mono (Nat.le_refl _)))
  clear hB
  by_cases hg : decide (1000 < manyP us 0) = true
  · refine (great_is us OK'.out true hg w2 q d AT'.out (by omega)).mono ?_
    rintro e w3 ⟨rfl, hB⟩
    clear hg
    go_wp2_with fail
    refine (wakes5_any _).mono ?_
    rintro e w4 ⟨rfl, hB'⟩
    go_wp2
    go_ret
    exact ⟨rfl, (BB.out.trans (hB.mono BB.out.size)).trans (hB'.mono (Nat.le_trans BB.out.size hB.size))⟩
  rw [Bool.not_eq_true] at hg
  have hsz' := small_of_many hg
  refine (great_is us OK'.out false hg w2 q d AT'.out (by omega)).mono ?_
  rintro e w3 ⟨rfl, hB⟩
  clear hg
  replace BB := Lib.hid (BB.out.trans (hB.mono BB.out.size))
  replace AT := Lib.hid (AT.out.below hB)
  replace AT' := Lib.hid (AT'.out.below hB)
  clear hB
  go_wp2_with fail
  refine (rvars_at ts (by omega) OK.out w3 p c AT.out).mono ?_
  rintro e w4 ⟨u, rfl, hu, hB⟩
  obtain ⟨zs, hzs⟩ : ∃ zs, zs = numsOf ((nodesOf ts).map Ts.mark) := ⟨_, rfl⟩
  rw [← hzs] at hu
  obtain ⟨pz, cz, rfl, hiz, hcz, hcz'⟩ := hu
  have hnz : zs.length ≤ 1000 := by
    rw [hzs]
    have h1 := numsOf_length ((nodesOf ts).map Ts.mark)
    rw [List.length_map, nodesOf_length] at h1
    omega
  have ZS := Lib.hid hzs
  replace BB := Lib.hid (BB.out.trans (hB.mono BB.out.size))
  replace AT := Lib.hid (AT.out.below hB)
  replace AT' := Lib.hid (AT'.out.below hB)
  clear hzs hB
  go_wp2_with fail
  refine (lcanon_any zs (by omega) _ ts (Nat.lt_succ_self _) (by omega) OK.out w4 p c pz cz AT.out hiz).mono ?_
  rintro e w5 ⟨was, qw, cw, rfl, hatw, htww, hokw, hcw, hpw, hB⟩
  rw [ZS.out, canon_law] at htww
  have WAS := Lib.hid (And.intro (AtP_at hatw) (And.intro htww hokw))
  replace BB := Lib.hid (BB.out.trans (hB.mono BB.out.size))
  replace AT := Lib.hid (AT.out.below hB)
  replace AT' := Lib.hid (AT'.out.below hB)
  clear hB hatw htww hokw hiz
  go_wp2_with fail
  refine (canon_any ts (by omega) OK.out w5 p c AT.out).mono ?_
  rintro e w6 ⟨cn, qn, rfl, hatn, htwn, hokn, -, hB⟩
  have CAN := Lib.hid (And.intro hatn.at (And.intro htwn hokn))
  replace BB := Lib.hid (BB.out.trans (hB.mono BB.out.size))
  replace AT := Lib.hid (AT.out.below hB)
  replace AT' := Lib.hid (AT'.out.below hB)
  replace WAS := Lib.hid (And.intro (WAS.out.1.below hB) WAS.out.2)
  clear hB hatn htwn hokn
  have hlw : was.len = ts.len := by rw [Ts.twin_len _ _ WAS.out.2.1, renT_len]
  have hln : cn.len = ts.len := by rw [Ts.twin_len _ _ CAN.out.2.1, renT_len]
  have hts := Ts.len_size ts
  have hw9 : was.len ≤ 9223372036854775807 := by omega
  have hn9 : cn.len ≤ 9223372036854775807 := by omega
  clear hlw hln
  go_wp2_with fail
  refine (all_any _ cn was (Nat.lt_succ_self _) CAN.out.2.2 WAS.out.2.2 hn9 hw9 w6 qn qw cn.len cw CAN.out.1 WAS.out.1).mono ?_
  rintro e w7 ⟨rfl, hB⟩
  rw [twin_alike_both CAN.out.2.1 WAS.out.2.1, alike_refl]
  replace BB := Lib.hid (BB.out.trans (hB.mono BB.out.size))
  replace AT := Lib.hid (AT.out.below hB)
  replace AT' := Lib.hid (AT'.out.below hB)
  replace WAS := Lib.hid (And.intro (WAS.out.1.below hB) WAS.out.2)
  clear hB
  go_wp2_with fail
  refine (variants_any ts us (by omega) (by omega) OK.out OK'.out w7 p q c d AT.out AT'.out).mono ?_
  rintro e w8 ⟨rfl, hB⟩
  replace BB := Lib.hid (BB.out.trans (hB.mono BB.out.size))
  replace AT := Lib.hid (AT.out.below hB)
  replace AT' := Lib.hid (AT'.out.below hB)
  replace WAS := Lib.hid (And.intro (WAS.out.1.below hB) WAS.out.2)
  clear hB
  obtain ⟨vv, hvv⟩ : ∃ vv, varB ts us [] [] = vv := ⟨_, rfl⟩
  rw [hvv]
  have VV := Lib.hid hvv
  clear hvv
  go_wp2_with fail
  refine (rvars_at us (by omega) OK'.out w8 q d AT'.out).mono ?_
  rintro e w9 ⟨u, rfl, hu, hB⟩
  obtain ⟨ys, hys⟩ : ∃ ys, ys = numsOf ((nodesOf us).map Ts.mark) := ⟨_, rfl⟩
  rw [← hys] at hu
  obtain ⟨py, cy, rfl, hiy, hcy, hcy'⟩ := hu
  have hny : ys.length ≤ 1000 := by
    rw [hys]
    have h1 := numsOf_length ((nodesOf us).map Ts.mark)
    rw [List.length_map, nodesOf_length] at h1
    omega
  have YS := Lib.hid hys
  replace BB := Lib.hid (BB.out.trans (hB.mono BB.out.size))
  replace AT := Lib.hid (AT.out.below hB)
  replace AT' := Lib.hid (AT'.out.below hB)
  replace WAS := Lib.hid (And.intro (WAS.out.1.below hB) WAS.out.2)
  clear hys hB
  go_wp2_with fail
  refine (lcanon_any ys (by omega) _ us (Nat.lt_succ_self _) (by omega) OK'.out w9 q d py cy AT'.out hiy).mono ?_
  rintro e w10 ⟨wbs, qb, cb, rfl, hatb, htwb, hokb, hcb, hpb, hB⟩
  rw [YS.out, canon_law] at htwb
  have WBS := Lib.hid (And.intro (AtP_at hatb) (And.intro htwb hokb))
  replace BB := Lib.hid (BB.out.trans (hB.mono BB.out.size))
  replace AT := Lib.hid (AT.out.below hB)
  replace AT' := Lib.hid (AT'.out.below hB)
  replace WAS := Lib.hid (And.intro (WAS.out.1.below hB) WAS.out.2)
  clear hB hatb htwb hokb hiy
  have hlb := Ts.twin_len _ _ WBS.out.2.1
  rw [renT_len] at hlb
  have hus := Ts.len_size us
  have hb9 : wbs.len ≤ 9223372036854775807 := by omega
  clear hlb
  go_wp2_with fail
  refine (all_any _ was wbs (Nat.lt_succ_self _) WAS.out.2.2 WBS.out.2.2 hw9 hb9 w10 qw qb cw cb WAS.out.1 WBS.out.1).mono ?_
  rintro e w11 ⟨rfl, hB⟩
  rw [twin_alike_both WAS.out.2.1 WBS.out.2.1, show alike (renT stepC ts []).1 (renT stepC us []).1 = vv from VV.out]
  replace BB := Lib.hid (BB.out.trans (hB.mono BB.out.size))
  replace AT := Lib.hid (AT.out.below hB)
  replace AT' := Lib.hid (AT'.out.below hB)
  replace WAS := Lib.hid (And.intro (WAS.out.1.below hB) WAS.out.2)
  clear hB WBS
  have hvx : (vv != vv) = false := by simp
  go_wp2_with fail
  clear AT' WAS CAN hw9 hn9 hb9 hvx VV
  refine (rvars_at ts (by omega) OK.out w11 p c AT.out).mono ?_
  rintro e w12 ⟨u, rfl, hu, hB⟩
  rw [← ZS.out] at hu
  obtain ⟨pv, cv, rfl, hiv, hcv, hcv'⟩ := hu
  replace BB := Lib.hid (BB.out.trans (hB.mono BB.out.size))
  replace AT := Lib.hid (AT.out.below hB)
  clear hB
  obtain ⟨bz, oz, hpz, hcell⟩ := hiv
  have CZ := Lib.hid hcell
  have PZ := Lib.hid hpz
  clear hcell hpz
  go_wp2_with fail
  go_loop [9, 10, 12] (fun m g i => ∃ (j : Nat), j ≤ zs.length ∧ i = .int .i64 j ∧ m = .int .i64 (mostL (zs.take j)) ∧ g = .bool ((zs.take j).all fun z => decide (0 ≤ z) && decide (z < 4611686018427387904))) (fun _ _ i => zs.length - (intOf i).toNat)
  case atStart => exact ⟨0, Nat.zero_le _, rfl, rfl, rfl⟩
  case round =>
    obtain ⟨j, hj, rfl, rfl, rfl⟩ := hrel
    by_cases hjl : j < zs.length
    · have hpz' := some_of_ints PZ.out hjl
      obtain ⟨z, hz⟩ : ∃ z, z = zs[j] := ⟨_, rfl⟩
      have hc : w12.cell? ⟨bz, oz + j, none⟩ = some (.int .i64 z) := by rw [hz]; exact CZ.out j hjl
      have HZ := Lib.hid hz
      clear hz
      subst hpz'
      have hmx : mostL (zs.take (j + 1)) = max (mostL (zs.take j)) z := by
        rw [List.take_succ_eq_append_getElem hjl, mostL, List.foldl_append, ← HZ.out]
        rfl
      have hal : (zs.take (j + 1)).all (fun z => decide (0 ≤ z) && decide (z < 4611686018427387904)) = ((zs.take j).all (fun z => decide (0 ≤ z) && decide (z < 4611686018427387904)) && (decide (0 ≤ z) && decide (z < 4611686018427387904))) := by
        rw [List.take_succ_eq_append_getElem hjl, List.all_append, ← HZ.out]
        simp
      have HM := Lib.hid hmx
      have HA := Lib.hid hal
      clear hmx hal
      obtain ⟨gv, hgv⟩ : ∃ gv, ((zs.take j).all fun z => decide (0 ≤ z) && decide (z < 4611686018427387904)) = gv := ⟨_, rfl⟩
      obtain ⟨mv, hmv⟩ : ∃ mv, mostL (zs.take j) = mv := ⟨_, rfl⟩
      rw [hgv, hmv]
      have GV := Lib.hid hgv
      have MV := Lib.hid hmv
      clear hgv hmv
      cases gv <;> by_cases hz0 : 0 ≤ z <;> by_cases hz2 : z < 4611686018427387904
      all_goals
        go_wp2
        go_round
        case rel => exact ⟨j + 1, by omega, by go_num, by rw [HM.out, MV.out]; congr 1; split <;> omega, by rw [HA.out, GV.out]; simp [hz0, hz2]⟩
        case measure => simp [intOf]; omega
    · rw [List.take_of_length_le (by omega)]
      obtain ⟨gv, hgv⟩ : ∃ gv, (zs.all fun z => decide (0 ≤ z) && decide (z < 4611686018427387904)) = gv := ⟨_, rfl⟩
      have GV := Lib.hid hgv
      rw [hgv]
      clear hgv


      obtain ⟨mv, hmv⟩ : ∃ mv, mostL zs = mv := ⟨_, rfl⟩
      have MV := Lib.hid hmv
      rw [hmv]
      clear hmv
      have hcut : gv = true → -1 ≤ mv ∧ mv ≤ 4611686018427387903 ∧ numsFit ts ∧ ((cntL ts : Nat) : Int) = mv + 1 := by
        intro h
        have h1 := GV.out
        rw [h, List.all_eq_true] at h1
        have h2 : ∀ z ∈ zs, 0 ≤ z ∧ z ≤ 4611686018427387903 := fun z hz => by
          have := h1 z hz
          simp only [Bool.and_eq_true, decide_eq_true_eq] at this
          omega
        have hzs := ZS.out
        obtain ⟨h3, h4, h5⟩ := foldl_max_ge zs (-1)
        change -1 ≤ mostL zs at h3
        change mostL zs = -1 ∨ mostL zs ∈ zs at h5
        rw [MV.out] at h3 h5
        refine ⟨h3, ?_, numsIn_fit (M := 4611686018427387903) (by decide) (vars_in (by rw [← hzs]; exact h2)), ?_⟩
        · rcases h5 with h5 | h5
          · omega
          · exact (h2 _ h5).2
        · have h6 := cnt_most (ts := ts) (by rw [← hzs]; exact fun n hn => (h2 n hn).1)
          rw [← hzs, MV.out] at h6
          exact h6
      have CUT := Lib.hid hcut
      clear hcut
      obtain ⟨b, o, hp, hlies⟩ := AT.out
      have HP := Lib.hid hp
      have LI : Hid (ts.lies w12 b o) := Lib.hid hlies
      clear hp hlies
      obtain ⟨w13, hw13⟩ : ∃ w13, w13 = w12 := ⟨_, rfl⟩
      have b12 : Hid (Below w12.heap.size w12 w13) := Lib.hid (by rw [hw13]; exact Below.refl _ _)
      cases gv
      case' true =>
        obtain ⟨hm1, hm2, hfit, hcn⟩ := CUT.out rfl
        have hmw : wrap64 (mv + 1) = mv + 1 := wrap64_in (by omega)
        have CN := Lib.hid hcn
        clear hcn w13 hw13 b12
        go_wp2_with fail
        refine (rcount_any _ ts (Nat.lt_succ_self _) (by omega) OK.out hfit w12 p c AT.out).mono ?_
        rintro e w13 ⟨rfl, hB⟩
        rw [CN.out]
        have b12 : Hid (Below w12.heap.size w12 w13) := Lib.hid hB
        clear hB hfit CN
      case' false =>
        rw [← hw13]
        clear hw13
      all_goals
        go_wp2_with fail
        go_loopw [13] (fun s13 wr => ∃ (j : Nat), j ≤ ts.len ∧ s13 = .int .i64 j ∧ Hid (Below w12.heap.size w12 wr)) (fun i _ => ts.len - (intOf i).toNat)
        case atStart => exact ⟨0, Nat.zero_le _, rfl, b12⟩
        case round =>
          rename_i wr _
          obtain ⟨j, hj, rfl, BR⟩ := hrel
          by_cases hlt : j < ts.len
          · have hp' := Ts.some_of HP.out hlt
            subst hp'
            obtain ⟨k, s, n, pp, cc, kids, rest, HD, EL, hsz1, hoke⟩ := Ts.elem LI.out BR.out OK.out hlt
            have OKE := Lib.hid hoke
            have BW : Hid (Below w.heap.size w wr) := Lib.hid (BB.out.trans (BR.out.mono BB.out.size))
            clear hoke
            have c0 := EL.c0
            have c1 := EL.c1
            have c2 := EL.c2
            have c3 := EL.c3
            go_wp2_with fail
            refine (shift_of kids by' (by omega) k s n wr pp cc OKE.out EL.tat).mono ?_
            rintro e w5 ⟨v, rfl, ⟨usx, qx, dx, rfl, hatx, htwx, hokx⟩, hB⟩
            unfold tv
            replace EL := EL.below hB
            replace BR := Lib.hid (BR.out.trans (hB.mono BR.out.size))
            replace BW := Lib.hid (BW.out.trans (hB.mono BW.out.size))
            have OKX := Lib.hid hokx
            have TWX := Lib.hid htwx
            have hsx : usx.size = kids.size := by rw [Ts.twin_size _ _ htwx, renT_size]
            clear c0 c1 c2 c3 hB htwx hokx
            go_wp2_with fail
            obtain ⟨W6, hW6, hs6, hA6, hTx, hc6⟩ := box2 w5 #[Value.int IntKind.u8 k, Value.string s, Value.int IntKind.i64 (shN by' k n), Value.slice qx usx.len dx] #[Value.int IntKind.u8 k, Value.string s, Value.int IntKind.i64 (shN by' k n), Value.slice qx usx.len dx] 24 24
            rw [← hW6]
            have Z6 := Lib.hid hW6
            have TX : TT w5 w5.heap.size k s (shN by' k n) qx dx usx W6 := ⟨hA6, by omega, hTx 0 _ rfl, hTx 1 _ rfl, hTx 2 _ rfl, hTx 3 _ rfl, hatx.below hA6⟩
            have L6 := lies_one rfl hc6 TX.tat
            replace EL := EL.below hA6
            replace BR := Lib.hid (BR.out.trans (hA6.mono BR.out.size))
            replace BW := Lib.hid (BW.out.trans (hA6.mono BW.out.size))
            clear hW6 hTx hc6 hA6 hatx
            refine (rvars_at (.cons k s (shN by' k n) qx dx usx .nil) (by simp only [Ts.size]; omega) OKX.out W6 _ 1 L6).mono ?_
            rintro e w7 ⟨u, rfl, hu, hB⟩
            obtain ⟨ls, hls⟩ : ∃ ls, ls = numsOf ((nodesOf (.cons k s (shN by' k n) qx dx usx .nil)).map Ts.mark) := ⟨_, rfl⟩
            rw [← hls] at hu
            obtain ⟨pl, cl, rfl, hil, hcl, hcl'⟩ := hu
            have LS := Lib.hid hls
            replace EL := EL.below hB
            replace TX := TX.below hB
            replace BR := Lib.hid (BR.out.trans (hB.mono BR.out.size))
            replace BW := Lib.hid (BW.out.trans (hB.mono BW.out.size))
            clear hls hB L6
            have hatm : Ts.At w7 (some ⟨b, o + j * 4, none⟩) (.cons k s n pp cc kids .nil) := ⟨b, o + j * 4, .inr rfl, EL.c0, EL.c1, EL.c2, EL.c3, EL.tat, trivial⟩
            have ATM := Lib.hid hatm
            clear hatm
            go_wp2_with fail
            refine (rvars_at (.cons k s n pp cc kids .nil) (by simp only [Ts.size]; omega) OKE.out w7 _ _ ATM.out).mono ?_
            rintro e w8 ⟨u, rfl, hu, hB⟩
            obtain ⟨ms, hms⟩ : ∃ ms, ms = numsOf ((nodesOf (.cons k s n pp cc kids .nil)).map Ts.mark) := ⟨_, rfl⟩
            rw [← hms] at hu
            obtain ⟨pm, cm, rfl, him, hcm, hcm'⟩ := hu
            have hlm : ls = ms.map fun n => wrap64 (n + by') := by
              rw [LS.out, hms]
              exact shift_vars by' OKE.out (shs_x TWX.out)
            have hll : ls.length = ms.length := by rw [hlm, List.length_map]
            have hnm : ms.length ≤ 1000 := by
              rw [hms]
              have h1 := numsOf_length ((nodesOf (.cons k s n pp cc kids .nil)).map Ts.mark)
              rw [List.length_map, nodesOf_length] at h1
              simp only [Ts.size] at h1
              omega
            rw [hll] at hcl ⊢
            have LM := Lib.hid hlm
            have HLL := Lib.hid hll
            replace hil := hil.below hB
            have IL := Lib.hid hil
            have IM := Lib.hid him
            replace EL := EL.below hB
            replace TX := TX.below hB
            replace BR := Lib.hid (BR.out.trans (hB.mono BR.out.size))
            replace BW := Lib.hid (BW.out.trans (hB.mono BW.out.size))
            clear hlm hll hil him hms hB ATM LS
            go_wp2_with fail
            obtain ⟨bx, hbx⟩ : ∃ bx, bx = w5.heap.size := ⟨_, rfl⟩
            rw [← hbx] at TX ⊢
            clear hbx
            refine region_by_facts (fun W => Below w8.heap.size w8 W ∧ TT w5 bx k s (shN by' k n) qx dx usx W ∧ El b (o + j * 4) k s n pp cc kids W)
              [fun v _ => v = .slice pl ms.length cl, fun v _ => v = .int .i64 ms.length, fun v _ => v = .slice pm ms.length cm, fun v _ => v = .int .i64 ms.length, fun v _ => v = .bool false, fun v _ => v = .bool false, fun v _ => v = tv k s (shN by' k n) qx usx.len dx, fun v _ => v = .int .i64 by', fun v _ => v = .int .i64 (wrap64 (-by')), ShOf (wrap64 (-by')) k s (shN by' k n) usx, fun v _ => v = .slice (some ⟨b, o, none⟩) ts.len c, fun v _ => v = .int .i64 j, fun v _ => v = .pointer (some ⟨b, o + j * 4, none⟩), fun v _ => v = tv k s n pp kids.len cc, fun v _ => v = .bool true, fun v _ => v = .bool false, fun v _ => v = .bool false]
              ⟨.eq _, .eq _, .eq _, .eq _, .eq _, .eq _, .eq _, .eq _, .eq _, fun _ _ _ h => h.below, .eq _, .eq _, .eq _, .eq _, .eq _, .eq _, .eq _, trivial⟩
              (by kernel_rfl) (by kernel_rfl) (by kernel_rfl) ?h0 ?steps ?done
            case h0 => exact ⟨below_drewN (Below.refl _ _) 1, TX.drewN 1, EL.below (below_drewN (Below.refl _ _) 1)⟩
            case steps =>
              refine ⟨?_, ?_, ?_, ?_, ?_, ?_, ?_, ?_, ?_, ?_, ?_, ?_, ?_, ?_, ?_, ?_, ?_, trivial⟩
              · intro f W hI hd K hK
                simp only [frameOf, Act.put, List.setIfInBounds_toArray, List.set_cons_zero, List.set_cons_succ]
                go_simp
                refine hK.out (.slice pl ms.length cl) _ W ?_ hI (Below.refl _ _) rfl
                simp only [frameOf, Act.put, List.setIfInBounds_toArray, List.set_cons_zero, List.set_cons_succ]
              · intro f W hI hd K hK
                simp only [frameOf, Act.put, List.setIfInBounds_toArray, List.set_cons_zero, List.set_cons_succ]
                have h0 : f 0 = .slice pl ms.length cl := hd 0 (by kernel_rfl)
                rw [h0]
                go_simp
                refine hK.out (.int .i64 ms.length) _ W ?_ hI (Below.refl _ _) rfl
                simp only [frameOf, Act.put, List.setIfInBounds_toArray, List.set_cons_zero, List.set_cons_succ, Nat.zero_add, Nat.reduceAdd, h0]
              · intro f W hI hd K hK
                simp only [frameOf, Act.put, List.setIfInBounds_toArray, List.set_cons_zero, List.set_cons_succ]
                go_simp
                refine hK.out (.slice pm ms.length cm) _ W ?_ hI (Below.refl _ _) rfl
                simp only [frameOf, Act.put, List.setIfInBounds_toArray, List.set_cons_zero, List.set_cons_succ]
              · intro f W hI hd K hK
                simp only [frameOf, Act.put, List.setIfInBounds_toArray, List.set_cons_zero, List.set_cons_succ]
                have h2 : f 2 = .slice pm ms.length cm := hd 2 (by kernel_rfl)
                rw [h2]
                go_simp
                refine hK.out (.int .i64 ms.length) _ W ?_ hI (Below.refl _ _) rfl
                simp only [frameOf, Act.put, List.setIfInBounds_toArray, List.set_cons_zero, List.set_cons_succ, Nat.zero_add, Nat.reduceAdd, h2]
              · intro f W hI hd K hK
                simp only [frameOf, Act.put, List.setIfInBounds_toArray, List.set_cons_zero, List.set_cons_succ]
                have h1 : f 1 = .int .i64 ms.length := hd 1 (by kernel_rfl)
                have h3 : f 3 = .int .i64 ms.length := hd 3 (by kernel_rfl)
                rw [h1, h3]
                go_simp
                refine hK.out (.bool false) _ W ?_ hI (Below.refl _ _) rfl
                simp only [frameOf, Act.put, List.setIfInBounds_toArray, List.set_cons_zero, List.set_cons_succ, Nat.zero_add, Nat.reduceAdd, h1, h3]
              · intro f W hI hd K hK
                simp only [frameOf, Act.put, List.setIfInBounds_toArray, List.set_cons_zero, List.set_cons_succ]
                have h4 : f 4 = .bool false := hd 4 (by kernel_rfl)
                rw [h4]
                go_simp
                refine hK.out (.bool false) _ W ?_ hI (Below.refl _ _) rfl
                simp only [frameOf, Act.put, List.setIfInBounds_toArray, List.set_cons_zero, List.set_cons_succ, Nat.zero_add, Nat.reduceAdd, h4]
              · intro f W hI hd K hK
                simp only [frameOf, Act.put, List.setIfInBounds_toArray, List.set_cons_zero, List.set_cons_succ]
                have h5 : f 5 = .bool false := hd 5 (by kernel_rfl)
                have k0 := hI.2.1.c0
                have k1 := hI.2.1.c1
                have k2 := hI.2.1.c2
                have k3 := hI.2.1.c3
                rw [h5]
                go_simp
                refine hK.out (tv k s (shN by' k n) qx usx.len dx) _ W ?_ hI (Below.refl _ _) rfl
                simp only [tv, frameOf, Act.put, List.setIfInBounds_toArray, List.set_cons_zero, List.set_cons_succ, Nat.zero_add, Nat.reduceAdd, h5]
              · intro f W hI hd K hK
                simp only [frameOf, Act.put, List.setIfInBounds_toArray, List.set_cons_zero, List.set_cons_succ]
                have h5 : f 5 = .bool false := hd 5 (by kernel_rfl)
                rw [h5]
                go_simp
                refine hK.out (.int .i64 by') _ W ?_ hI (Below.refl _ _) rfl
                simp only [frameOf, Act.put, List.setIfInBounds_toArray, List.set_cons_zero, List.set_cons_succ, Nat.zero_add, Nat.reduceAdd, h5]
              · intro f W hI hd K hK
                simp only [frameOf, Act.put, List.setIfInBounds_toArray, List.set_cons_zero, List.set_cons_succ]
                have h5 : f 5 = .bool false := hd 5 (by kernel_rfl)
                have h7 : f 7 = .int .i64 by' := hd 7 (by kernel_rfl)
                rw [h5, h7]
                go_simp
                have hab2 : IntKind.i64.wrap (-by') = wrap64 (-by') := wrap_i64 _
                refine hK.out (.int .i64 (wrap64 (-by'))) _ W ?_ hI (Below.refl _ _) rfl
                simp only [frameOf, Act.put, List.setIfInBounds_toArray, List.set_cons_zero, List.set_cons_succ, Nat.zero_add, Nat.reduceAdd, h5, h7, hab2]
              · intro f W hI hd K hK
                simp only [frameOf, Act.put, List.setIfInBounds_toArray, List.set_cons_zero, List.set_cons_succ]
                have h5 : f 5 = .bool false := hd 5 (by kernel_rfl)
                have h6 : f 6 = tv k s (shN by' k n) qx usx.len dx := hd 6 (by kernel_rfl)
                unfold tv at h6
                have h8 : f 8 = .int .i64 (wrap64 (-by')) := hd 8 (by kernel_rfl)
                rw [h5, h6, h8]
                go_simp
                refine (shift_of usx (wrap64 (-by')) (by omega) k s (shN by' k n) W qx dx OKX.out hI.2.1.tat).mono ?_
                rintro e w' ⟨v, rfl, hv, hB⟩
                refine hK.out v _ _ ?_ ⟨hI.1.trans (hB.mono hI.1.size), hI.2.1.below hB, hI.2.2.below hB⟩ hB hv
                simp only [frameOf, Act.put, List.setIfInBounds_toArray, List.set_cons_zero, List.set_cons_succ, Nat.zero_add, Nat.reduceAdd, h5, h6, h8]
              · intro f W hI hd K hK
                simp only [frameOf, Act.put, List.setIfInBounds_toArray, List.set_cons_zero, List.set_cons_succ]
                have h5 : f 5 = .bool false := hd 5 (by kernel_rfl)
                rw [h5]
                go_simp
                refine hK.out (.slice (some ⟨b, o, none⟩) ts.len c) _ W ?_ hI (Below.refl _ _) rfl
                simp only [frameOf, Act.put, List.setIfInBounds_toArray, List.set_cons_zero, List.set_cons_succ, Nat.zero_add, Nat.reduceAdd, h5]
              · intro f W hI hd K hK
                simp only [frameOf, Act.put, List.setIfInBounds_toArray, List.set_cons_zero, List.set_cons_succ]
                have h5 : f 5 = .bool false := hd 5 (by kernel_rfl)
                rw [h5]
                go_simp
                refine hK.out (.int .i64 j) _ W ?_ hI (Below.refl _ _) rfl
                simp only [frameOf, Act.put, List.setIfInBounds_toArray, List.set_cons_zero, List.set_cons_succ, Nat.zero_add, Nat.reduceAdd, h5]
              · intro f W hI hd K hK
                simp only [frameOf, Act.put, List.setIfInBounds_toArray, List.set_cons_zero, List.set_cons_succ]
                have h5 : f 5 = .bool false := hd 5 (by kernel_rfl)
                have h10 : f 10 = .slice (some ⟨b, o, none⟩) ts.len c := hd 10 (by kernel_rfl)
                have h11 : f 11 = .int .i64 j := hd 11 (by kernel_rfl)
                rw [h5, h10, h11]
                go_simp
                refine hK.out (.pointer (some ⟨b, o + j * 4, none⟩)) _ W ?_ hI (Below.refl _ _) rfl
                simp only [frameOf, Act.put, List.setIfInBounds_toArray, List.set_cons_zero, List.set_cons_succ, Nat.zero_add, Nat.reduceAdd, h5, h10, h11]
              · intro f W hI hd K hK
                simp only [frameOf, Act.put, List.setIfInBounds_toArray, List.set_cons_zero, List.set_cons_succ]
                have h5 : f 5 = .bool false := hd 5 (by kernel_rfl)
                have h12 : f 12 = .pointer (some ⟨b, o + j * 4, none⟩) := hd 12 (by kernel_rfl)
                have k0 := hI.2.2.c0
                have k1 := hI.2.2.c1
                have k2 := hI.2.2.c2
                have k3 := hI.2.2.c3
                rw [h5, h12]
                go_simp
                refine hK.out (tv k s n pp kids.len cc) _ W ?_ hI (Below.refl _ _) rfl
                simp only [tv, frameOf, Act.put, List.setIfInBounds_toArray, List.set_cons_zero, List.set_cons_succ, Nat.zero_add, Nat.reduceAdd, h5, h12]
              · intro f W hI hd K hK
                simp only [frameOf, Act.put, List.setIfInBounds_toArray, List.set_cons_zero, List.set_cons_succ]
                have h5 : f 5 = .bool false := hd 5 (by kernel_rfl)
                obtain ⟨u9, q9, d9, e9, a9, t9, o9⟩ : ShOf (wrap64 (-by')) k s (shN by' k n) usx (f 9) W := hd 9 (by kernel_rfl)
                unfold tv at e9
                have h13 : f 13 = tv k s n pp kids.len cc := hd 13 (by kernel_rfl)
                unfold tv at h13
                rw [h5, e9, h13]
                go_simp
                have hal := tells_back OKE.out TWX.out t9
                have hlu := Ts.twin_len _ _ t9
                rw [renT_len] at hlu
                have hlx := Ts.len_size usx
                have hlk := Ts.len_size kids
                clear t9
                have hle9 : u9.len ≤ 9223372036854775807 := by omega
                have hlek : kids.len ≤ 9223372036854775807 := by omega
                clear hlu hlx hlk
                refine (same_of u9 kids (fun w p p' c c' h h' => all_any _ u9 kids (Nat.lt_succ_self _) o9.2.2.2.2.2.1 OKE.out.2.2.2.2.2.1 hle9 hlek w p p' c c' h h') k k s s (shN (wrap64 (-by')) k (shN by' k n)) n q9 pp d9 cc W a9 hI.2.2.tat).mono ?_
                rintro e w' ⟨rfl, hB⟩
                rw [hal]
                refine hK.out (.bool true) _ _ ?_ ⟨hI.1.trans (hB.mono hI.1.size), hI.2.1.below hB, hI.2.2.below hB⟩ hB rfl
                simp only [frameOf, Act.put, List.setIfInBounds_toArray, List.set_cons_zero, List.set_cons_succ, Nat.zero_add, Nat.reduceAdd, h5, e9, h13]
              · intro f W hI hd K hK
                simp only [frameOf, Act.put, List.setIfInBounds_toArray, List.set_cons_zero, List.set_cons_succ]
                have h5 : f 5 = .bool false := hd 5 (by kernel_rfl)
                have h14 : f 14 = .bool true := hd 14 (by kernel_rfl)
                rw [h5, h14]
                go_simp
                refine hK.out (.bool false) _ W ?_ hI (Below.refl _ _) rfl
                simp only [frameOf, Act.put, List.setIfInBounds_toArray, List.set_cons_zero, List.set_cons_succ, Nat.zero_add, Nat.reduceAdd, h5, h14]
              · intro f W hI hd K hK
                simp only [frameOf, Act.put, List.setIfInBounds_toArray, List.set_cons_zero, List.set_cons_succ]
                have h5 : f 5 = .bool false := hd 5 (by kernel_rfl)
                have h15 : f 15 = .bool false := hd 15 (by kernel_rfl)
                rw [h5, h15]
                go_simp
                refine hK.out (.bool false) _ W ?_ hI (Below.refl _ _) rfl
                simp only [frameOf, Act.put, List.setIfInBounds_toArray, List.set_cons_zero, List.set_cons_succ, Nat.zero_add, Nat.reduceAdd, h5, h15]
            case done =>
              intro f W hI hF
              have h16 : f 16 = .bool false := hF 16 (by decide)
              simp only [frameOf, Act.put, List.setIfInBounds_toArray, List.set_cons_zero, List.set_cons_succ]
              rw [h16]
              clear hF h16
              obtain ⟨hBW, -, -⟩ := hI
              replace BR := Lib.hid (BR.out.trans (hBW.mono BR.out.size))
              replace BW := Lib.hid (BW.out.trans (hBW.mono BW.out.size))
              replace IL := Lib.hid (IL.out.below hBW)
              replace IM := Lib.hid (IM.out.below hBW)
              clear hBW EL TX
              go_wp2_with fail
              go_loopw [17] (fun s17 wr => ∃ (m : Nat), m ≤ ms.length ∧ s17 = .int .i64 m ∧ Hid (Below W.heap.size W wr)) (fun i _ => ms.length - (intOf i).toNat)
              case atStart => exact ⟨0, Nat.zero_le _, rfl, Lib.hid (Below.refl _ _)⟩
              case round =>
                rename_i wr _
                obtain ⟨m, hm, rfl, BM⟩ := hrel
                by_cases hlm : m < ms.length
                · obtain ⟨bl, ol, hpl, hcell⟩ := IL.out.below BM.out
                  obtain ⟨bm, om, hpm, hcell'⟩ := IM.out.below BM.out
                  have hll := HLL.out
                  have hpl' := some_of_ints hpl (j := m) (by omega)
                  have hpm' := some_of_ints hpm hlm
                  obtain ⟨z, hz⟩ : ∃ z, z = ms[m] := ⟨_, rfl⟩
                  have hlz : ls[m]'(by omega) = wrap64 (z + by') := by
                    have h1 := LM.out
                    subst h1
                    simp [hz]
                  have kl : wr.cell? ⟨bl, ol + m, none⟩ = some (.int .i64 (wrap64 (z + by'))) := by rw [← hlz]; exact hcell m (by omega)
                  have km : wr.cell? ⟨bm, om + m, none⟩ = some (.int .i64 z) := by rw [hz]; exact hcell' m hlm
                  subst hpl' hpm'
                  clear hpl hpm hcell hcell' hll hlz hz
                  go_wp2
                  go_quiet (fail)
                  go_wp2
                  go_roundw
                  case rel => exact ⟨m + 1, by omega, by go_num, Lib.hid (below_drewN BM.out _)⟩
                  case measure => simp [intOf]; omega
                · replace BR := Lib.hid (BR.out.trans (BM.out.mono BR.out.size))
                  clear BM
                  go_wp2
                  go_roundw
                  case rel => exact ⟨j + 1, by omega, by go_num, BR⟩
                  case measure => simp [intOf]; omega
          · replace BB := Lib.hid (BB.out.trans (BR.out.mono BB.out.size))
            go_wp2_with fail
            refine (wakes5_any _).mono ?_
            rintro e w5 ⟨rfl, hB⟩
            go_wp2
            go_ret
            exact ⟨rfl, BB.out.trans (hB.mono BB.out.size)⟩
end Go.Proofs.Ytlhclblekpngnaa
