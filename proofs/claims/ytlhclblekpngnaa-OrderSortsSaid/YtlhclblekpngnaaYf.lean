/-
  Layer 2: two sorted parts merged in place, walked. (Written by gen_yf.py.)
-/
import Derived.Test.YtlhclblekpngnaaYe
import Derived.Deep.DeepCutAuto
namespace Go.Proofs.Ytlhclblekpngnaa
open Go.RowKit

set_option maxRecDepth 100000 in
set_option maxHeartbeats 80000000 in
theorem sym_any (R N c : Nat) (hN : N ≤ 1000000) (hc : N ≤ c ∧ c ≤ 9223372036854775807) : ∀ (sz a m b : Nat) (d : Nat → It) (w : World), b - a ≤ sz → OwnF R N d w → a < m → m < b → b ≤ N → (∀ i, i < N → (d i).us.size ≤ 1000000) → SortedF cmI d a m → SortedF cmI d m b →
    Calls Try.prog 101 #[.slice (some ⟨R, 0, none⟩) N c, .int .i64 a, .int .i64 m, .int .i64 b, .func (.func 34) #[] #[]] w fun e w' => e = .returned (.tuple #[]) ∧ ∃ d', OwnF R N d' w' ∧ PermF a b d d' ∧ SortedF cmI d' a b ∧ Below R w w' := by
  intro sz
  induction sz with
  | zero => intro a m b d w h0 _ h1 h2; omega
  | succ sz ih =>
    intro a m b d w h0 how h1 h2 h3 hsz hs1 hs2
    by_cases hone : m = a + 1
    · exact sym_one R N c a m b d w how h1 h2 h3 hN hc hsz hs1 hs2 hone
    by_cases hlast : b = m + 1
    · exact sym_last R N c a m b d w how h1 h2 h3 hN hc hsz hs1 hs2 hone hlast
    have OW := Lib.hid how
    have S1 := Lib.hid hs1
    have S2 := Lib.hid hs2
    obtain ⟨mid, hmid⟩ : ∃ mid, (a + b) / 2 = mid := ⟨_, rfl⟩
    obtain ⟨nn, hnn⟩ : ∃ nn, mid + m = nn := ⟨_, rfl⟩
    obtain ⟨pp, hpp⟩ : ∃ pp, mid + m - 1 = pp := ⟨_, rfl⟩
    have hww : ∃ lo hi, ((mid < m ∧ lo = mid + m - b ∧ hi = mid) ∨ (m ≤ mid ∧ lo = a ∧ hi = m)) := by
      by_cases g : mid < m
      · exact ⟨_, _, .inl ⟨g, rfl, rfl⟩⟩
      · exact ⟨_, _, .inr ⟨by omega, rfl, rfl⟩⟩
    obtain ⟨lo, hi, hw⟩ := hww
    have HW := Lib.hid hw
    have LOHI : Hid (lo ≤ hi) := Lib.hid (by omega)
    have RNG : Hid (∀ h, lo ≤ h → h < hi → m ≤ pp - h ∧ pp - h < b ∧ a ≤ h ∧ h < m ∧ a ≤ lo ∧ pp < b + lo ∧ h ≤ pp ∧ hi ≤ m ∧ m + hi ≤ pp + 1) := Lib.hid (fun h g g' => by omega)
    have emid := half_is hmid
    have enn : (mid : Int) + (m : Int) = (nn : Int) := by omega
    have epp : (nn : Int) - 1 = (pp : Int) := by omega
    have hd1 : ¬ (m : Int) - (a : Int) = 1 := by omega
    have hd2 : ((m : Int) - (a : Int) == 1) = false := by simpa using hd1
    have hd3 : ¬ (b : Int) - (m : Int) = 1 := by omega
    have hd4 : ((b : Int) - (m : Int) == 1) = false := by simpa using hd3
    have HM := Lib.hid hmid
    have HNN := Lib.hid hnn
    have HP := Lib.hid hpp
    have hmb : a < mid ∧ mid < b := by omega
    clear how hs1 hs2 hmid hnn hpp hone hlast hw
    go_enter Try.func101, Try.ntmps101
    go_upto_if 140 with fail
    go_cut [20, 21] (fun s20 s21 wx => s20 = .int .i64 lo ∧ s21 = .int .i64 hi ∧ Hid (OwnF R N d wx) ∧ Hid (Below R w wx))
    case first =>
      by_cases hgt : mid < m
      · have elo : (nn : Int) - (b : Int) = (lo : Int) := by have := HNN.out; have := HM.out; have := HW.out; omega
        have ehi : Hid ((mid : Int) = (hi : Int)) := Lib.hid (by have := HW.out; omega)
        go_wp2_with fail
        go_meet
        exact ⟨rfl, by rw [ehi.out], OW, Lib.hid (Below.refl _ _)⟩
      · have elo : Hid ((a : Int) = (lo : Int)) := Lib.hid (by have := HW.out; omega)
        have ehi : Hid ((m : Int) = (hi : Int)) := Lib.hid (by have := HW.out; omega)
        go_wp2_with fail
        go_meet
        exact ⟨by rw [elo.out], by rw [ehi.out], OW, Lib.hid (Below.refl _ _)⟩
    case rest =>
      obtain ⟨rfl, rfl, OW2, BR2⟩ := hcut
      go_wp2_with fail
      go_loopw [20, 21] (fun s20 s21 wr => ∃ (i j : Nat), lo ≤ i ∧ i ≤ j ∧ j ≤ hi ∧ s20 = .int .i64 i ∧ s21 = .int .i64 j ∧ Hid (∀ k, lo ≤ k → k < i → 0 ≤ cmI (d (pp - k)) (d k)) ∧ Hid (∀ k, j ≤ k → k < hi → cmI (d (pp - k)) (d k) < 0) ∧ Hid (OwnF R N d wr) ∧ Hid (Below R w wr)) (fun i j _ => (intOf j).toNat - (intOf i).toNat)
      case atStart => exact ⟨lo, hi, Nat.le_refl _, LOHI.out, Nat.le_refl _, rfl, rfl, Lib.hid (fun k _ _ => by omega), Lib.hid (fun k _ _ => by omega), OW2, BR2⟩
      case round =>
        obtain ⟨i, j, hi1, hij, hj, rfl, rfl, P1, P2, OD, BR⟩ := hrel
        by_cases hlt : i < j
        · obtain ⟨h, hh⟩ : ∃ h, (i + j) / 2 = h := ⟨_, rfl⟩
          have ehalf := half_is hh
          have HH := Lib.hid hh
          obtain ⟨q1, hh1⟩ : ∃ q1, pp - h = q1 := ⟨_, rfl⟩
          obtain ⟨q2, hh2⟩ : ∃ q2, h = q2 := ⟨_, rfl⟩
          have hb1 : lo ≤ h ∧ h < hi := by omega
          have hbb : m ≤ pp - h ∧ pp - h < b ∧ a ≤ h ∧ h < m ∧ a ≤ lo ∧ pp < b + lo ∧ h ≤ pp ∧ hi ≤ m ∧ m + hi ≤ pp + 1 := RNG.out h hb1.1 hb1.2
          have RB := Lib.hid hbb
          have hq1 : q1 < N := by omega
          have hq2 : q2 < N := by omega
          obtain ⟨⟨k1, s1, n1, p1, c1, u1⟩, hk1⟩ : ∃ x, d q1 = x := ⟨_, rfl⟩
          obtain ⟨⟨k2, s2, n2, p2, c2, u2⟩, hk2⟩ : ∃ x, d q2 = x := ⟨_, rfl⟩
          have o1 := OD.out.ok q1 hq1
          have o2 := OD.out.ok q2 hq2
          have z1 := hsz q1 hq1
          rw [hk1] at o1 z1
          rw [hk2] at o2
          have O1 := Lib.hid o1
          have O2 := Lib.hid o2
          have hcmp : ∀ W, Ts.At W p1 u1 → Ts.At W p2 u2 → Calls Try.prog 34 #[.agg #[.int .u8 k1, .string s1, .int .i64 n1, .slice p1 u1.len c1], .agg #[.int .u8 k2, .string s2, .int .i64 n2, .slice p2 u2.len c2]] W fun e w' => e = .returned (.int .i64 (cmI (d q1) (d q2))) ∧ Below W.heap.size W w' := by
            intro W h h'
            rw [hk1, hk2]
            exact compare_any z1 O1.out.2.2.2.2.2.1 O2.out.2.2.2.2.2.1 h h'
          obtain ⟨x, hx⟩ : ∃ x, cmI (d q1) (d q2) = x := ⟨_, rfl⟩
          have CMP := Lib.hid hcmp
          have HX := Lib.hid hx
          have K1 := Lib.hid hk1
          have K2 := Lib.hid hk2
          have Q1 := Lib.hid hq1
          have Q2 := Lib.hid hq2
          clear hk1 hk2 o1 o2 z1 hcmp hx
          have t1 : (q1 : Int) < (N : Int) := by omega
          have t2 : (h : Int) < (N : Int) := by omega
          have t3 : (pp : Int) - (h : Int) = (q1 : Int) := by omega
          have t4 : (0 : Int) ≤ (q1 : Int) := by omega
          have QQ := Lib.hid hh1
          clear hh hh1 hbb hb1
          go_wp2_with fail
          subst hh2
          refine region_by_facts (fun W => Below R w W ∧ OwnF R N d W)
            [fun v _ => v = .func (.func 34) #[] #[], fun v _ => v = .slice (some ⟨R, 0, none⟩) N c, fun v _ => v = .int .i64 pp, fun v _ => v = .int .i64 h, fun v _ => v = .int .i64 q1, fun v _ => v = .pointer (some ⟨R, q1 * 4, none⟩), fun v _ => v = tv k1 s1 n1 p1 u1.len c1, fun v _ => v = .slice (some ⟨R, 0, none⟩) N c, fun v _ => v = .int .i64 h, fun v _ => v = .pointer (some ⟨R, h * 4, none⟩), fun v _ => v = tv k2 s2 n2 p2 u2.len c2, fun v _ => v = .int .i64 x, fun v _ => v = .bool (decide (x < 0)), fun v _ => v = .bool (!decide (x < 0))]
            ⟨.eq _, .eq _, .eq _, .eq _, .eq _, .eq _, .eq _, .eq _, .eq _, .eq _, .eq _, .eq _, .eq _, .eq _, trivial⟩
            (by kernel_rfl) (by kernel_rfl) (by kernel_rfl) ?h0 ?steps ?done
          case h0 => exact ⟨below_drewN BR.out 1, OD.out.below (below_drewN (Below.refl _ _) 1)⟩
          case steps =>
            refine ⟨?_, ?_, ?_, ?_, ?_, ?_, ?_, ?_, ?_, ?_, ?_, ?_, ?_, ?_, trivial⟩
            · as_aux_lemma =>
                intro f W hI hd K hK
                simp only [frameOf, Act.put, List.setIfInBounds_toArray, List.set_cons_zero, List.set_cons_succ]
                go_simp
                refine hK.out (.func (.func 34) #[] #[]) _ W ?_ hI (Below.refl _ _) rfl
                simp only [frameOf, Act.put, List.setIfInBounds_toArray, List.set_cons_zero, List.set_cons_succ]
            · as_aux_lemma =>
                intro f W hI hd K hK
                simp only [frameOf, Act.put, List.setIfInBounds_toArray, List.set_cons_zero, List.set_cons_succ]
                go_simp
                refine hK.out (.slice (some ⟨R, 0, none⟩) N c) _ W ?_ hI (Below.refl _ _) rfl
                simp only [frameOf, Act.put, List.setIfInBounds_toArray, List.set_cons_zero, List.set_cons_succ]
            · as_aux_lemma =>
                intro f W hI hd K hK
                simp only [frameOf, Act.put, List.setIfInBounds_toArray, List.set_cons_zero, List.set_cons_succ]
                go_simp
                refine hK.out (.int .i64 pp) _ W ?_ hI (Below.refl _ _) rfl
                simp only [frameOf, Act.put, List.setIfInBounds_toArray, List.set_cons_zero, List.set_cons_succ]
            · as_aux_lemma =>
                intro f W hI hd K hK
                simp only [frameOf, Act.put, List.setIfInBounds_toArray, List.set_cons_zero, List.set_cons_succ]
                go_simp
                refine hK.out (.int .i64 h) _ W ?_ hI (Below.refl _ _) rfl
                simp only [frameOf, Act.put, List.setIfInBounds_toArray, List.set_cons_zero, List.set_cons_succ]
            · as_aux_lemma =>
                intro f W hI hd K hK
                simp only [frameOf, Act.put, List.setIfInBounds_toArray, List.set_cons_zero, List.set_cons_succ]
                have h2 : f 2 = .int .i64 pp := hd 2 (by kernel_rfl)
                have h3 : f 3 = .int .i64 h := hd 3 (by kernel_rfl)
                rw [h2, h3]
                go_simp
                have hab2 : IntKind.i64.wrap ((pp : Int) - (h : Int)) = (q1 : Int) := by rw [IntKind.wrap_i64]; omega
                have hab3 : IntKind.i64.wrap (q1 : Int) = (q1 : Int) := by rw [IntKind.wrap_i64]; omega
                refine hK.out (.int .i64 q1) _ W ?_ hI (Below.refl _ _) rfl
                simp only [frameOf, Act.put, List.setIfInBounds_toArray, List.set_cons_zero, List.set_cons_succ, Nat.zero_add, Nat.reduceAdd, h2, h3]
                simp only [Act.mk.injEq, Array.mk.injEq, List.cons.injEq, true_and, and_true, Value.int.injEq]
                first | exact hab2 | exact hab3 | (rw [t3]; exact hab3) | omega
            · as_aux_lemma =>
                intro f W hI hd K hK
                simp only [frameOf, Act.put, List.setIfInBounds_toArray, List.set_cons_zero, List.set_cons_succ]
                have h1 : f 1 = .slice (some ⟨R, 0, none⟩) N c := hd 1 (by kernel_rfl)
                have h4 : f 4 = .int .i64 q1 := hd 4 (by kernel_rfl)
                rw [h1, h4]
                go_simp
                refine hK.out (.pointer (some ⟨R, q1 * 4, none⟩)) _ W ?_ hI (Below.refl _ _) rfl
                simp only [frameOf, Act.put, List.setIfInBounds_toArray, List.set_cons_zero, List.set_cons_succ, Nat.zero_add, Nat.reduceAdd, h1, h4]
            · as_aux_lemma =>
                intro f W hI hd K hK
                simp only [frameOf, Act.put, List.setIfInBounds_toArray, List.set_cons_zero, List.set_cons_succ]
                have h5 : f 5 = .pointer (some ⟨R, q1 * 4, none⟩) := hd 5 (by kernel_rfl)
                have hr := hI.2.row q1 Q1.out
                rw [K1.out] at hr
                obtain ⟨g0, g1, g2, g3, -⟩ := hr
                simp only at g0 g1 g2 g3
                rw [h5]
                go_simp
                refine hK.out (tv k1 s1 n1 p1 u1.len c1) _ W ?_ hI (Below.refl _ _) rfl
                simp only [tv, frameOf, Act.put, List.setIfInBounds_toArray, List.set_cons_zero, List.set_cons_succ, Nat.zero_add, Nat.reduceAdd, h5]
            · as_aux_lemma =>
                intro f W hI hd K hK
                simp only [frameOf, Act.put, List.setIfInBounds_toArray, List.set_cons_zero, List.set_cons_succ]
                go_simp
                refine hK.out (.slice (some ⟨R, 0, none⟩) N c) _ W ?_ hI (Below.refl _ _) rfl
                simp only [frameOf, Act.put, List.setIfInBounds_toArray, List.set_cons_zero, List.set_cons_succ]
            · as_aux_lemma =>
                intro f W hI hd K hK
                simp only [frameOf, Act.put, List.setIfInBounds_toArray, List.set_cons_zero, List.set_cons_succ]
                go_simp
                refine hK.out (.int .i64 h) _ W ?_ hI (Below.refl _ _) rfl
                simp only [frameOf, Act.put, List.setIfInBounds_toArray, List.set_cons_zero, List.set_cons_succ]
            · as_aux_lemma =>
                intro f W hI hd K hK
                simp only [frameOf, Act.put, List.setIfInBounds_toArray, List.set_cons_zero, List.set_cons_succ]
                have h7 : f 7 = .slice (some ⟨R, 0, none⟩) N c := hd 7 (by kernel_rfl)
                have h8 : f 8 = .int .i64 h := hd 8 (by kernel_rfl)
                rw [h7, h8]
                go_simp
                refine hK.out (.pointer (some ⟨R, h * 4, none⟩)) _ W ?_ hI (Below.refl _ _) rfl
                simp only [frameOf, Act.put, List.setIfInBounds_toArray, List.set_cons_zero, List.set_cons_succ, Nat.zero_add, Nat.reduceAdd, h7, h8]
            · as_aux_lemma =>
                intro f W hI hd K hK
                simp only [frameOf, Act.put, List.setIfInBounds_toArray, List.set_cons_zero, List.set_cons_succ]
                have h9 : f 9 = .pointer (some ⟨R, h * 4, none⟩) := hd 9 (by kernel_rfl)
                have hr := hI.2.row h Q2.out
                rw [K2.out] at hr
                obtain ⟨g0, g1, g2, g3, -⟩ := hr
                simp only at g0 g1 g2 g3
                rw [h9]
                go_simp
                refine hK.out (tv k2 s2 n2 p2 u2.len c2) _ W ?_ hI (Below.refl _ _) rfl
                simp only [tv, frameOf, Act.put, List.setIfInBounds_toArray, List.set_cons_zero, List.set_cons_succ, Nat.zero_add, Nat.reduceAdd, h9]
            · as_aux_lemma =>
                intro f W hI hd K hK
                simp only [frameOf, Act.put, List.setIfInBounds_toArray, List.set_cons_zero, List.set_cons_succ]
                have h0 : f 0 = .func (.func 34) #[] #[] := hd 0 (by kernel_rfl)
                have h6 : f 6 = tv k1 s1 n1 p1 u1.len c1 := hd 6 (by kernel_rfl)
                unfold tv at h6
                have h10 : f 10 = tv k2 s2 n2 p2 u2.len c2 := hd 10 (by kernel_rfl)
                unfold tv at h10
                rw [h0, h6, h10]
                go_simp
                have ra := hI.2.row q1 Q1.out
                rw [K1.out] at ra
                have rb := hI.2.row h Q2.out
                rw [K2.out] at rb
                obtain ⟨-, -, -, -, ta⟩ := ra
                obtain ⟨-, -, -, -, tb⟩ := rb
                refine (CMP.out W ta.at tb.at).mono ?_
                rintro e w' ⟨rfl, hB⟩
                rw [HX.out]
                refine hK.out (.int .i64 x) _ _ ?_ ⟨hI.1.trans (hB.mono (by have := hI.2.lt; omega)), hI.2.below hB⟩ hB rfl
                simp only [frameOf, Act.put, List.setIfInBounds_toArray, List.set_cons_zero, List.set_cons_succ, Nat.zero_add, Nat.reduceAdd, h0, h6, h10]
            · as_aux_lemma =>
                intro f W hI hd K hK
                simp only [frameOf, Act.put, List.setIfInBounds_toArray, List.set_cons_zero, List.set_cons_succ]
                have h11 : f 11 = .int .i64 x := hd 11 (by kernel_rfl)
                rw [h11]
                go_simp
                refine hK.out (.bool (decide (x < 0))) _ W ?_ hI (Below.refl _ _) rfl
                simp only [frameOf, Act.put, List.setIfInBounds_toArray, List.set_cons_zero, List.set_cons_succ, Nat.zero_add, Nat.reduceAdd, h11]
            · as_aux_lemma =>
                intro f W hI hd K hK
                simp only [frameOf, Act.put, List.setIfInBounds_toArray, List.set_cons_zero, List.set_cons_succ]
                have h12 : f 12 = .bool (decide (x < 0)) := hd 12 (by kernel_rfl)
                rw [h12]
                go_simp
                refine hK.out (.bool (!decide (x < 0))) _ W ?_ hI (Below.refl _ _) rfl
                simp only [frameOf, Act.put, List.setIfInBounds_toArray, List.set_cons_zero, List.set_cons_succ, Nat.zero_add, Nat.reduceAdd, h12]
          case done =>
            intro f W hI hF
            have hlast : f 13 = .bool (!decide (x < 0)) := hF 13 (by decide)
            simp only [frameOf, Act.put, List.setIfInBounds_toArray, List.set_cons_zero, List.set_cons_succ]
            rw [hlast]
            clear hF hlast
            obtain ⟨hBW, hOW⟩ := hI
            replace BR := Lib.hid hBW
            replace OD := Lib.hid hOW
            clear hBW hOW
            by_cases hlx : x < 0
            · rw [decide_eq_true hlx]
              have HL := Lib.hid hlx
              clear hlx
              go_wp2
              go_roundw
              case rel =>
                have hh := HH.out
                obtain ⟨r1, r2, r3, r4, r5, r6, r7, r8, r9⟩ := RB.out
                exact ⟨i, h, hi1, by omega, by omega, rfl, rfl, P1, Lib.hid (sym_more cmI_cmp S1.out S2.out r3 r2 r8 r9 (by rw [QQ.out, HX.out]; exact HL.out)), OD, BR⟩
              case measure =>
                have hh := HH.out
                simp [intOf]; omega
            · rw [decide_eq_false hlx]
              have HL := Lib.hid hlx
              clear hlx
              go_wp2
              go_roundw
              case rel =>
                have hh := HH.out
                obtain ⟨r1, r2, r3, r4, r5, r6, r7, r8, r9⟩ := RB.out
                exact ⟨h + 1, j, by omega, by omega, hj, by go_num, rfl, Lib.hid (fun k g g' => by have := sym_less cmI_cmp S1.out S2.out (c := h) (p := pp) (lo := lo) r4 r1 r5 r6 r7 (by rw [QQ.out, HX.out]; exact HL.out) k g g'; omega), P2, OD, BR⟩
              case measure =>
                have hh := HH.out
                simp [intOf]; omega
        · obtain rfl : i = j := by omega
          have hfound := sym_found cmI_cmp (d := d) (a := a) (m := m) (b := b) (mid := mid) (st := i) (lo := lo) (hi := hi) h1 h2 HM.out.symm HW.out hi1 hj S1.out S2.out (fun k g g' => by rw [HP.out]; have := P1.out k g g'; omega) (fun k g g' => by rw [HP.out]; exact P2.out k g g')
          obtain ⟨en, hen⟩ : ∃ en, mid + m - i = en := ⟨_, rfl⟩
          rw [hen] at hfound
          have een : (nn : Int) - (i : Int) = (en : Int) := by have := HNN.out; have := hfound.2.2.2.2.1; omega
          have FND := Lib.hid hfound
          clear hfound hen P1 P2
          go_upto_region 39 with fail
          go_cut [185] (fun sb wx => sb = .bool (decide ((i < m) ∧ (m < en))) ∧ Hid (OwnF R N d wx) ∧ Hid (Below R w wx))
          case first =>
            by_cases hX : i < m
            · by_cases hY : m < en
              · have hXY : Hid (decide ((i < m) ∧ (m < en)) = true) := Lib.hid (decide_eq_true ⟨hX, hY⟩)
                go_wp2_with fail
                go_meet
                exact ⟨by rw [hXY.out], OD, BR⟩
              · have hXY : Hid (decide ((i < m) ∧ (m < en)) = false) := Lib.hid (decide_eq_false fun h => hY h.2)
                go_wp2_with fail
                go_meet
                exact ⟨by rw [hXY.out], OD, BR⟩
            · have hXY : Hid (decide ((i < m) ∧ (m < en)) = false) := Lib.hid (decide_eq_false fun h => hX h.1)
              go_wp2_with fail
              go_meet
              exact ⟨by rw [hXY.out], OD, BR⟩
          case rest =>
            obtain ⟨rfl, OD, BR⟩ := hcut
            as_aux_lemma =>
            go_upto_if 185 with fail
            go_cut [18] (fun s18 wx => s18 = .int .i64 mid ∧ Hid (OwnF R N (rotF d i m en) wx) ∧ Hid (PermF a b d (rotF d i m en)) ∧ Hid (Below R w wx))
            case first =>
              by_cases hXY : i < m ∧ m < en
              · rw [decide_eq_true hXY]
                obtain ⟨hX, hY⟩ := hXY
                go_wp2_with fail
                refine (rotate_any R N c i m en d _ OD.out hX hY (by have := FND.out; omega) hN hc _).mono ?_
                rintro e w' ⟨rfl, hO, hB⟩
                have O1 := Lib.hid hO
                have O4 := Lib.hid (BR.out.trans hB)
                clear hO hB
                go_wp2_with fail
                go_meet
                exact ⟨rfl, O1, Lib.hid ((rot_perm d hX hY).wide (by have := FND.out; omega) (by have := FND.out; omega)), O4⟩
              · rw [decide_eq_false hXY]
                have he : Hid (rotF d i m en = d) := Lib.hid (by
                  by_cases hX : i < m
                  · rw [show en = m by have := FND.out; omega]; exact rot_right _ _ _
                  · rw [show i = m by have := FND.out; omega]; exact rot_left _ _ _)
                go_wp2_with fail
                go_meet
                exact ⟨rfl, Lib.hid (by rw [he.out]; exact OD.out), Lib.hid (by rw [he.out]; exact PermF.refl _ _ _), BR⟩
            case rest =>
              obtain ⟨rfl, OD, PD, BR⟩ := hcut
              go_upto_region 41 with fail
              go_cut [199] (fun sb wx => sb = .bool (decide ((a < i) ∧ (i < mid))) ∧ Hid (OwnF R N (rotF d i m en) wx) ∧ Hid (Below R w wx))
              case first =>
                by_cases hX : a < i
                · by_cases hY : i < mid
                  · have hXY : Hid (decide ((a < i) ∧ (i < mid)) = true) := Lib.hid (decide_eq_true ⟨hX, hY⟩)
                    go_wp2_with fail
                    go_meet
                    exact ⟨by rw [hXY.out], OD, BR⟩
                  · have hXY : Hid (decide ((a < i) ∧ (i < mid)) = false) := Lib.hid (decide_eq_false fun h => hY h.2)
                    go_wp2_with fail
                    go_meet
                    exact ⟨by rw [hXY.out], OD, BR⟩
                · have hXY : Hid (decide ((a < i) ∧ (i < mid)) = false) := Lib.hid (decide_eq_false fun h => hX h.1)
                  go_wp2_with fail
                  go_meet
                  exact ⟨by rw [hXY.out], OD, BR⟩
              case rest =>
                obtain ⟨rfl, OD, BR⟩ := hcut
                as_aux_lemma =>
                go_upto_if 199 with fail
                go_cut [18] (fun s18 wx => s18 = .int .i64 mid ∧ ∃ D1, Hid (OwnF R N D1 wx) ∧ Hid (PermF a mid (rotF d i m en) D1) ∧ Hid (SortedF cmI D1 a mid) ∧ Hid (Below R w wx))
                case first =>
                  by_cases hAB : a < i ∧ i < mid
                  · rw [decide_eq_true hAB]
                    obtain ⟨hA, hB2⟩ := hAB
                    go_wp2_with fail
                    refine (ih a i mid _ _ (by have := FND.out; have := HM.out; omega) OD.out hA hB2 (by have := HM.out; omega) (PD.out.all (P := fun x => x.us.size ≤ 1000000) (by omega) hsz) FND.out.2.2.2.2.2.2.1 FND.out.2.2.2.2.2.2.2.1).mono ?_
                    rintro e w' ⟨rfl, D1, hO, hP, hS, hB⟩
                    have O1 := Lib.hid hO
                    have O2 := Lib.hid hP
                    have O3 := Lib.hid hS
                    have O4 := Lib.hid (BR.out.trans hB)
                    clear hO hP hS hB
                    go_wp2_with fail
                    go_meet
                    exact ⟨rfl, D1, O1, O2, O3, O4⟩
                  · rw [decide_eq_false hAB]
                    have S0 : Hid (SortedF cmI (rotF d i m en) a mid) := Lib.hid (by
                      by_cases hA : a < i
                      · exact FND.out.2.2.2.2.2.2.1.sub (Nat.le_refl _) (by omega)
                      · exact FND.out.2.2.2.2.2.2.2.1.sub (by omega) (Nat.le_refl _))
                    go_wp2_with fail
                    go_meet
                    exact ⟨rfl, _, OD, Lib.hid (PermF.refl _ _ _), S0, BR⟩
                case rest =>
                  obtain ⟨rfl, D1, OD, P1, S1', BR⟩ := hcut
                  go_upto_region 43 with fail
                  go_cut [213] (fun sb wx => sb = .bool (decide ((mid < en) ∧ (en < b))) ∧ Hid (OwnF R N D1 wx) ∧ Hid (Below R w wx))
                  case first =>
                    by_cases hX : mid < en
                    · by_cases hY : en < b
                      · have hXY : Hid (decide ((mid < en) ∧ (en < b)) = true) := Lib.hid (decide_eq_true ⟨hX, hY⟩)
                        go_wp2_with fail
                        go_meet
                        exact ⟨by rw [hXY.out], OD, BR⟩
                      · have hXY : Hid (decide ((mid < en) ∧ (en < b)) = false) := Lib.hid (decide_eq_false fun h => hY h.2)
                        go_wp2_with fail
                        go_meet
                        exact ⟨by rw [hXY.out], OD, BR⟩
                    · have hXY : Hid (decide ((mid < en) ∧ (en < b)) = false) := Lib.hid (decide_eq_false fun h => hX h.1)
                      go_wp2_with fail
                      go_meet
                      exact ⟨by rw [hXY.out], OD, BR⟩
                  case rest =>
                    obtain ⟨rfl, OD, BR⟩ := hcut
                    as_aux_lemma =>
                    go_upto_if 213 with fail
                    by_cases hCD : mid < en ∧ en < b
                    · rw [decide_eq_true hCD]
                      obtain ⟨hC, hD⟩ := hCD
                      go_wp2_with fail
                      refine (ih mid en b _ _ (by have := FND.out; have := HM.out; omega) OD.out hC hD h3 (P1.out.all (P := fun x => x.us.size ≤ 1000000) (by omega) (PD.out.all (P := fun x => x.us.size ≤ 1000000) (by omega) hsz)) (FND.out.2.2.2.2.2.2.2.2.1.congr fun k g _ => P1.out.out k (.inr g)) (FND.out.2.2.2.2.2.2.2.2.2.1.congr fun k g _ => P1.out.out k (.inr (by omega)))).mono ?_
                      rintro e w' ⟨rfl, D2, hO, hP, hS, hB⟩
                      replace OD := Lib.hid hO
                      have P2 := Lib.hid hP
                      have S2' := Lib.hid hS
                      replace BR := Lib.hid (BR.out.trans hB)
                      clear hO hP hS hB
                      go_wp2
                      go_end0
                      exact ⟨rfl, _, OD.out, (PD.out.trans (P1.out.wide (Nat.le_refl _) (by have := FND.out; have := HM.out; omega))).trans (P2.out.wide (by have := FND.out; omega) (Nat.le_refl _)), SortedF.halves P1.out P2.out S1'.out S2'.out FND.out.2.2.2.2.2.2.2.2.2.2, BR.out⟩
                    · rw [decide_eq_false hCD]
                      have P2 := Lib.hid (PermF.refl mid b D1)
                      have S2' : Hid (SortedF cmI D1 mid b) := Lib.hid (by
                        by_cases hC : mid < en
                        · have e : en = b := by have := FND.out.2.2.2.1; omega
                          exact ((FND.out.2.2.2.2.2.2.2.2.1.congr fun k g _ => P1.out.out k (.inr g)).sub (Nat.le_refl _) (by omega))
                        · exact ((FND.out.2.2.2.2.2.2.2.2.2.1.congr fun k g _ => P1.out.out k (.inr (by have := FND.out; omega))).sub (by have := FND.out; omega) (Nat.le_refl _)))
                      go_wp2
                      go_end0
                      exact ⟨rfl, _, OD.out, (PD.out.trans (P1.out.wide (Nat.le_refl _) (by have := FND.out; have := HM.out; omega))).trans (P2.out.wide (by have := FND.out; omega) (Nat.le_refl _)), SortedF.halves P1.out P2.out S1'.out S2'.out FND.out.2.2.2.2.2.2.2.2.2.2, BR.out⟩

end Go.Proofs.Ytlhclblekpngnaa
