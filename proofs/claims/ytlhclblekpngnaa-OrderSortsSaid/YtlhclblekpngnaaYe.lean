/-
  Layer 2: two sorted parts merged in place, the one of one thing. (Written by gen_ye.py.)
-/
import Derived.Test.YtlhclblekpngnaaYd
namespace Go.Proofs.Ytlhclblekpngnaa
open Go.RowKit

theorem rotF_perm {α : Type} (d : Nat → α) {m : Nat} : ∀ (s i j : Nat), i + j ≤ s → 0 < i → 0 < j → i ≤ m → ∀ (d : Nat → α), PermF (m - i) (m + j) d (rotF d (m - i) m (m + j))
  | 0, i, j, h, hi, _, _, _ => by omega
  | s + 1, i, j, h, hi, hj, him, d => by
    by_cases e : i = j
    · subst e
      rw [← rot_eq d him]
      exact swpR_perm d (Nat.le_refl _) i (by omega) (by omega)
    · by_cases hgt : j < i
      · rw [← rot_gt d him hgt]
        have h1 := rotF_perm d (m := m) s (i - j) j (by omega) (by omega) hj (by omega) (swpR d (m - i) m j)
        exact (swpR_perm (lo := m - i) (hi := m + j) d (Nat.le_refl _) j (by omega) (by omega)).trans (PermF.wide (a' := m - i) (b' := m + j) h1 (by omega) (Nat.le_refl _))
      · rw [← rot_lt d him (by omega)]
        have h1 := rotF_perm d (m := m) s i (j - i) (by omega) hi (by omega) him (swpR d (m - i) (m + j - i) i)
        exact (swpR_perm (lo := m - i) (hi := m + j) d (Nat.le_refl _) i (by omega) (by omega)).trans (PermF.wide (a' := m - i) (b' := m + j) h1 (Nat.le_refl _) (by omega))

theorem rot_perm {α : Type} (d : Nat → α) {a m b : Nat} (h1 : a < m) (h2 : m < b) : PermF a b d (rotF d a m b) := by
  have := rotF_perm d (m := m) ((m - a) + (b - m)) (m - a) (b - m) (Nat.le_refl _) (by omega) (by omega) (by omega) d
  rwa [show m - (m - a) = a by omega, show m + (b - m) = b by omega] at this

theorem PermF.all {α : Type} {a b N : Nat} {d d' : Nat → α} {P : α → Prop} (h : PermF a b d d') (hb : b ≤ N) (hP : ∀ i, i < N → P (d i)) : ∀ i, i < N → P (d' i) := fun i hi => by
  by_cases e : a ≤ i ∧ i < b
  · obtain ⟨l, _, l2, l3⟩ := h.inn i e.1 e.2
    rw [l3]; exact hP l (by omega)
  · rw [h.out i (by omega)]; exact hP i hi

theorem half_is {i j h : Nat} (hh : (i + j) / 2 = h) : ((i : Int) + (j : Int)) / 2 = (h : Int) := by omega

theorem movedUp_perm {α : Type} (d : Nat → α) {a b : Nat} : ∀ (n : Nat), a + n < b → PermF a b d (movedUp d a (a + n))
  | 0, _ => by rw [Nat.add_zero, movedUp_start]; exact PermF.refl _ _ _
  | n + 1, h => by
    rw [show a + (n + 1) = a + n + 1 by omega, movedUp_step d (by omega)]
    exact (movedUp_perm d n (by omega)).trans (PermF.swp _ (by omega) (by omega))

theorem movedDown_perm {α : Type} (d : Nat → α) {a m : Nat} : ∀ (n : Nat), a + n ≤ m → PermF a (m + 1) d (movedDown d m (m - n))
  | 0, _ => by rw [Nat.sub_zero, movedDown_start]; exact PermF.refl _ _ _
  | n + 1, h => by
    have e : m - n = m - (n + 1) + 1 := by omega
    have h1 := movedDown_perm d (a := a) (m := m) n (by omega)
    rw [e] at h1
    rw [movedDown_step d (by omega)]
    exact h1.trans (PermF.swp _ (by omega) (by omega))

set_option maxRecDepth 100000 in
set_option maxHeartbeats 20000000 in
theorem sym_one (R N c a m b : Nat) (d : Nat → It) (w : World) (how : OwnF R N d w) (h1 : a < m) (h2 : m < b) (h3 : b ≤ N) (hN : N ≤ 1000000) (hc : N ≤ c ∧ c ≤ 9223372036854775807) (hsz : ∀ i, i < N → (d i).us.size ≤ 1000000) (hs1 : SortedF cmI d a m) (hs2 : SortedF cmI d m b) (hone : m = a + 1) :
    Calls Try.prog 101 #[.slice (some ⟨R, 0, none⟩) N c, .int .i64 a, .int .i64 m, .int .i64 b, .func (.func 34) #[] #[]] w fun e w' => e = .returned (.tuple #[]) ∧ ∃ d', OwnF R N d' w' ∧ PermF a b d d' ∧ SortedF cmI d' a b ∧ Below R w w' := by
  have OW := Lib.hid how
  have S1 := Lib.hid hs1
  have S2 := Lib.hid hs2
  clear how hs1 hs2
  go_enter Try.func101, Try.ntmps101
  have hd1 : (m : Int) - (a : Int) = 1 := by omega
  have ONE := Lib.hid hone
  clear hone
  go_wp2_with fail
  go_loopw [10, 11] (fun s10 s11 wr => ∃ (i j : Nat), m ≤ i ∧ i ≤ j ∧ j ≤ b ∧ s10 = .int .i64 i ∧ s11 = .int .i64 j ∧ Hid (∀ k, m ≤ k → k < i → cmI (d k) (d a) < 0) ∧ Hid (∀ k, j ≤ k → k < b → 0 ≤ cmI (d k) (d a)) ∧ Hid (OwnF R N d wr) ∧ Hid (Below R w wr)) (fun i j _ => (intOf j).toNat - (intOf i).toNat)
  case atStart => exact ⟨m, b, Nat.le_refl _, by omega, Nat.le_refl _, rfl, rfl, Lib.hid (fun k _ _ => by omega), Lib.hid (fun k _ _ => by omega), OW, Lib.hid (Below.refl _ _)⟩
  case round =>
    obtain ⟨i, j, hi, hij, hj, rfl, rfl, P1, P2, OD, BR⟩ := hrel
    by_cases hlt : i < j
    · obtain ⟨h, hh⟩ : ∃ h, (i + j) / 2 = h := ⟨_, rfl⟩
      have ehalf := half_is hh
      have HH := Lib.hid hh
      obtain ⟨q1, hh1⟩ : ∃ q1, h = q1 := ⟨_, rfl⟩
      obtain ⟨q2, hh2⟩ : ∃ q2, a = q2 := ⟨_, rfl⟩
      have hq1 : q1 < N := by omega
      have hq2 : q2 < N := by omega
      obtain ⟨⟨k1, s1, n1, p1, c1, u1⟩, hk1⟩ : ∃ x, d q1 = x := ⟨_, rfl⟩
      obtain ⟨⟨k2, s2, n2, p2, c2, u2⟩, hk2⟩ : ∃ x, d q2 = x := ⟨_, rfl⟩
      have o1 := OD.out.ok q1 hq1
      have o2 := OD.out.ok q2 hq2
      have z1 := hsz q1 hq1
      rw [hk1] at o1 z1
      rw [hk2] at o2
      have O1 := Lib.hid o1
      have O2 := Lib.hid o2
      have hcmp : ∀ W, Ts.At W p1 u1 → Ts.At W p2 u2 → Calls Try.prog 34 #[.agg #[.int .u8 k1, .string s1, .int .i64 n1, .slice p1 u1.len c1], .agg #[.int .u8 k2, .string s2, .int .i64 n2, .slice p2 u2.len c2]] W fun e w' => e = .returned (.int .i64 (cmI (d q1) (d q2))) ∧ Below W.heap.size W w' := by
        intro W h h'
        rw [hk1, hk2]
        exact compare_any z1 O1.out.2.2.2.2.2.1 O2.out.2.2.2.2.2.1 h h'
      obtain ⟨x, hx⟩ : ∃ x, cmI (d q1) (d q2) = x := ⟨_, rfl⟩
      have CMP := Lib.hid hcmp
      have HX := Lib.hid hx
      have K1 := Lib.hid hk1
      have K2 := Lib.hid hk2
      have Q1 := Lib.hid hq1
      have Q2 := Lib.hid hq2
      clear hk1 hk2 o1 o2 z1 hcmp hx
      have t1 : (h : Int) < (N : Int) := by omega
      have t2 : (a : Int) < (N : Int) := by omega
      have H1 := Lib.hid hh1
      have H2 := Lib.hid hh2
      clear hh
      go_wp2_with fail
      subst hh1; subst hh2
      refine region_by_facts (fun W => Below R w W ∧ OwnF R N d W)
        [fun v _ => v = .func (.func 34) #[] #[], fun v _ => v = .slice (some ⟨R, 0, none⟩) N c, fun v _ => v = .int .i64 h, fun v _ => v = .pointer (some ⟨R, h * 4, none⟩), fun v _ => v = tv k1 s1 n1 p1 u1.len c1, fun v _ => v = .slice (some ⟨R, 0, none⟩) N c, fun v _ => v = .int .i64 a, fun v _ => v = .pointer (some ⟨R, a * 4, none⟩), fun v _ => v = tv k2 s2 n2 p2 u2.len c2, fun v _ => v = .int .i64 x, fun v _ => v = .bool (decide (x < 0))]
        ⟨.eq _, .eq _, .eq _, .eq _, .eq _, .eq _, .eq _, .eq _, .eq _, .eq _, .eq _, trivial⟩
        (by kernel_rfl) (by kernel_rfl) (by kernel_rfl) ?h0 ?steps ?done
      case h0 => exact ⟨below_drewN BR.out 1, OD.out.below (below_drewN (Below.refl _ _) 1)⟩
      case steps =>
        refine ⟨?_, ?_, ?_, ?_, ?_, ?_, ?_, ?_, ?_, ?_, ?_, trivial⟩
        · intro f W hI hd K hK
          simp only [frameOf, Act.put, List.setIfInBounds_toArray, List.set_cons_zero, List.set_cons_succ]
          go_simp
          refine hK.out (.func (.func 34) #[] #[]) _ W ?_ hI (Below.refl _ _) rfl
          simp only [frameOf, Act.put, List.setIfInBounds_toArray, List.set_cons_zero, List.set_cons_succ]
        · intro f W hI hd K hK
          simp only [frameOf, Act.put, List.setIfInBounds_toArray, List.set_cons_zero, List.set_cons_succ]
          go_simp
          refine hK.out (.slice (some ⟨R, 0, none⟩) N c) _ W ?_ hI (Below.refl _ _) rfl
          simp only [frameOf, Act.put, List.setIfInBounds_toArray, List.set_cons_zero, List.set_cons_succ]
        · intro f W hI hd K hK
          simp only [frameOf, Act.put, List.setIfInBounds_toArray, List.set_cons_zero, List.set_cons_succ]
          go_simp
          refine hK.out (.int .i64 h) _ W ?_ hI (Below.refl _ _) rfl
          simp only [frameOf, Act.put, List.setIfInBounds_toArray, List.set_cons_zero, List.set_cons_succ]
        · intro f W hI hd K hK
          simp only [frameOf, Act.put, List.setIfInBounds_toArray, List.set_cons_zero, List.set_cons_succ]
          have h1 : f 1 = .slice (some ⟨R, 0, none⟩) N c := hd 1 (by kernel_rfl)
          have h2 : f 2 = .int .i64 h := hd 2 (by kernel_rfl)
          rw [h1, h2]
          go_simp
          refine hK.out (.pointer (some ⟨R, h * 4, none⟩)) _ W ?_ hI (Below.refl _ _) rfl
          simp only [frameOf, Act.put, List.setIfInBounds_toArray, List.set_cons_zero, List.set_cons_succ, Nat.zero_add, Nat.reduceAdd, h1, h2]
        · intro f W hI hd K hK
          simp only [frameOf, Act.put, List.setIfInBounds_toArray, List.set_cons_zero, List.set_cons_succ]
          have h3 : f 3 = .pointer (some ⟨R, h * 4, none⟩) := hd 3 (by kernel_rfl)
          have hr := hI.2.row h Q1.out
          rw [K1.out] at hr
          obtain ⟨g0, g1, g2, g3, -⟩ := hr
          simp only at g0 g1 g2 g3
          rw [h3]
          go_simp
          refine hK.out (tv k1 s1 n1 p1 u1.len c1) _ W ?_ hI (Below.refl _ _) rfl
          simp only [tv, frameOf, Act.put, List.setIfInBounds_toArray, List.set_cons_zero, List.set_cons_succ, Nat.zero_add, Nat.reduceAdd, h3]
        · intro f W hI hd K hK
          simp only [frameOf, Act.put, List.setIfInBounds_toArray, List.set_cons_zero, List.set_cons_succ]
          go_simp
          refine hK.out (.slice (some ⟨R, 0, none⟩) N c) _ W ?_ hI (Below.refl _ _) rfl
          simp only [frameOf, Act.put, List.setIfInBounds_toArray, List.set_cons_zero, List.set_cons_succ]
        · intro f W hI hd K hK
          simp only [frameOf, Act.put, List.setIfInBounds_toArray, List.set_cons_zero, List.set_cons_succ]
          go_simp
          refine hK.out (.int .i64 a) _ W ?_ hI (Below.refl _ _) rfl
          simp only [frameOf, Act.put, List.setIfInBounds_toArray, List.set_cons_zero, List.set_cons_succ]
        · intro f W hI hd K hK
          simp only [frameOf, Act.put, List.setIfInBounds_toArray, List.set_cons_zero, List.set_cons_succ]
          have h5 : f 5 = .slice (some ⟨R, 0, none⟩) N c := hd 5 (by kernel_rfl)
          have h6 : f 6 = .int .i64 a := hd 6 (by kernel_rfl)
          rw [h5, h6]
          go_simp
          refine hK.out (.pointer (some ⟨R, a * 4, none⟩)) _ W ?_ hI (Below.refl _ _) rfl
          simp only [frameOf, Act.put, List.setIfInBounds_toArray, List.set_cons_zero, List.set_cons_succ, Nat.zero_add, Nat.reduceAdd, h5, h6]
        · intro f W hI hd K hK
          simp only [frameOf, Act.put, List.setIfInBounds_toArray, List.set_cons_zero, List.set_cons_succ]
          have h7 : f 7 = .pointer (some ⟨R, a * 4, none⟩) := hd 7 (by kernel_rfl)
          have hr := hI.2.row a Q2.out
          rw [K2.out] at hr
          obtain ⟨g0, g1, g2, g3, -⟩ := hr
          simp only at g0 g1 g2 g3
          rw [h7]
          go_simp
          refine hK.out (tv k2 s2 n2 p2 u2.len c2) _ W ?_ hI (Below.refl _ _) rfl
          simp only [tv, frameOf, Act.put, List.setIfInBounds_toArray, List.set_cons_zero, List.set_cons_succ, Nat.zero_add, Nat.reduceAdd, h7]
        · intro f W hI hd K hK
          simp only [frameOf, Act.put, List.setIfInBounds_toArray, List.set_cons_zero, List.set_cons_succ]
          have h0 : f 0 = .func (.func 34) #[] #[] := hd 0 (by kernel_rfl)
          have h4 : f 4 = tv k1 s1 n1 p1 u1.len c1 := hd 4 (by kernel_rfl)
          unfold tv at h4
          have h8 : f 8 = tv k2 s2 n2 p2 u2.len c2 := hd 8 (by kernel_rfl)
          unfold tv at h8
          rw [h0, h4, h8]
          go_simp
          have ra := hI.2.row h Q1.out
          rw [K1.out] at ra
          have rb := hI.2.row a Q2.out
          rw [K2.out] at rb
          obtain ⟨-, -, -, -, ta⟩ := ra
          obtain ⟨-, -, -, -, tb⟩ := rb
          refine (CMP.out W ta.at tb.at).mono ?_
          rintro e w' ⟨rfl, hB⟩
          rw [HX.out]
          refine hK.out (.int .i64 x) _ _ ?_ ⟨hI.1.trans (hB.mono (by have := hI.2.lt; omega)), hI.2.below hB⟩ hB rfl
          simp only [frameOf, Act.put, List.setIfInBounds_toArray, List.set_cons_zero, List.set_cons_succ, Nat.zero_add, Nat.reduceAdd, h0, h4, h8]
        · intro f W hI hd K hK
          simp only [frameOf, Act.put, List.setIfInBounds_toArray, List.set_cons_zero, List.set_cons_succ]
          have h9 : f 9 = .int .i64 x := hd 9 (by kernel_rfl)
          rw [h9]
          go_simp
          refine hK.out (.bool (decide (x < 0))) _ W ?_ hI (Below.refl _ _) rfl
          simp only [frameOf, Act.put, List.setIfInBounds_toArray, List.set_cons_zero, List.set_cons_succ, Nat.zero_add, Nat.reduceAdd, h9]
      case done =>
        intro f W hI hF
        have hlast : f 10 = .bool (decide (x < 0)) := hF 10 (by decide)
        simp only [frameOf, Act.put, List.setIfInBounds_toArray, List.set_cons_zero, List.set_cons_succ]
        rw [hlast]
        clear hF hlast
        obtain ⟨hBW, hOW⟩ := hI
        replace BR := Lib.hid hBW
        replace OD := Lib.hid hOW
        clear hBW hOW
        by_cases hlx : x < 0
        · rw [decide_eq_true hlx]
          have HL := Lib.hid hlx
          clear hlx
          go_wp2
          go_roundw
          case rel =>
            have hh := HH.out
            exact ⟨h + 1, j, by omega, by omega, hj, by go_num, rfl, Lib.hid (up_less cmI_cmp (d a) S2.out (by omega) (by rw [HX.out]; exact HL.out)), P2, OD, BR⟩
          case measure =>
            have hh := HH.out
            simp [intOf]; omega
        · rw [decide_eq_false hlx]
          have HL := Lib.hid hlx
          clear hlx
          go_wp2
          go_roundw
          case rel =>
            have hh := HH.out
            exact ⟨i, h, hi, by omega, by omega, rfl, rfl, P1, Lib.hid (fun k g g' => by have := up_more cmI_cmp (d a) S2.out (by omega) (by rw [HX.out]; exact HL.out) k g g'; omega), OD, BR⟩
          case measure =>
            have hh := HH.out
            simp [intOf]; omega
    · obtain rfl : i = j := by omega
      have SD := Lib.hid (up_sorted cmI_cmp (d := d) (a := a) (b := b) (i := i) (by rw [← ONE.out]; exact S2.out) (by have := ONE.out; omega) hj (by rw [← ONE.out]; exact P1.out) (fun k g g' => by have := P2.out k g g'; omega))
      obtain ⟨e, he⟩ : ∃ e, i - 1 = e := ⟨_, rfl⟩
      have ei : (i : Int) - 1 = (e : Int) := by omega
      have HE := Lib.hid he
      have hae : a ≤ e := by have := ONE.out; omega
      have heb : e + 1 ≤ b := by omega
      clear he
      go_wp2_with fail
      go_loopw [13] (fun s13 wr => ∃ (k : Nat), a ≤ k ∧ k ≤ e ∧ s13 = .int .i64 k ∧ Hid (OwnF R N (movedUp d a k) wr) ∧ Hid (Below R w wr)) (fun k _ => e - (intOf k).toNat)
      case atStart => exact ⟨a, Nat.le_refl _, hae, rfl, Lib.hid (by rw [movedUp_start]; exact OD.out), BR⟩
      case round =>
        obtain ⟨k, hk, hke, rfl, OD, BR⟩ := hrel
        by_cases hlt2 : k < e
        · obtain ⟨D, hD⟩ : ∃ D, movedUp d a k = D := ⟨_, rfl⟩
          rw [hD] at OD
          have HD := Lib.hid hD
          clear hD
          obtain ⟨kk, hkk⟩ : ∃ kk, k + 1 = kk := ⟨_, rfl⟩
          have ek : (k : Int) + 1 = (kk : Int) := by omega
          have t1 : (k : Int) < (N : Int) := by omega
          have t2 : (kk : Int) < (N : Int) := by omega
          have HK := Lib.hid hkk
          obtain ⟨⟨k1, s1, n1, p1, c1, u1⟩, hk1⟩ : ∃ x, D k = x := ⟨_, rfl⟩
          obtain ⟨⟨k2, s2, n2, p2, c2, u2⟩, hk2⟩ : ∃ x, D kk = x := ⟨_, rfl⟩
          have ra := OD.out.row k (by omega)
          have rb := OD.out.row kk (by omega)
          rw [hk1] at ra
          rw [hk2] at rb
          obtain ⟨a0, a1, a2, a3, -⟩ := ra
          obtain ⟨b0, b1, b2, b3, -⟩ := rb
          simp only at a0 a1 a2 a3 b0 b1 b2 b3
          have fr := OD.out.fr
          have f0 := fr (k * 4)
          have g0 := fr (kk * 4)
          have f1 := fr (k * 4 + 1)
          have g1 := fr (kk * 4 + 1)
          have f2 := fr (k * 4 + 2)
          have g2 := fr (kk * 4 + 2)
          have f3 := fr (k * 4 + 3)
          have g3 := fr (kk * 4 + 3)
          have K1 := Lib.hid hk1
          have K2 := Lib.hid hk2
          clear fr hk1 hk2
          go_wp2_with fail
          go_big_region
          obtain ⟨W9, hW9, hO9, hB9⟩ := swapF_step OD.out (i := k) (j := kk) (by omega) (by omega) (by omega) BR.out
          rw [K1.out, K2.out] at hW9
          simp only at hW9
          rw [← hW9]
          have OS := Lib.hid (hO9.below (below_drewN (Below.refl _ W9) 1))
          have BS := Lib.hid (below_drewN hB9 1)
          have Z9 := Lib.hid hW9
          clear hW9 hO9 hB9 a0 a1 a2 a3 b0 b1 b2 b3 f0 f1 f2 f3 g0 g1 g2 g3
          go_wp2
          go_roundw
          case rel => exact ⟨kk, by omega, by omega, rfl, Lib.hid (by rw [← HK.out, movedUp_step d hk, HD.out, HK.out]; exact OS.out), BS⟩
          case measure => simp [intOf]; omega
        · obtain rfl : k = e := by omega
          have P := Lib.hid (movedUp_perm d (a := a) (b := b) (k - a) (by omega))
          go_wp2
          refine bodyPost_ret (v := .tuple #[]) (results_none rfl _ _ _) rfl ?_
          refine ⟨rfl, movedUp d a k, OD.out, ?_, ?_, BR.out⟩
          · have := P.out
            rwa [show a + (k - a) = k by omega] at this
          · rw [← HE.out]
            exact SD.out

set_option maxRecDepth 100000 in
set_option maxHeartbeats 20000000 in
theorem sym_last (R N c a m b : Nat) (d : Nat → It) (w : World) (how : OwnF R N d w) (h1 : a < m) (h2 : m < b) (h3 : b ≤ N) (hN : N ≤ 1000000) (hc : N ≤ c ∧ c ≤ 9223372036854775807) (hsz : ∀ i, i < N → (d i).us.size ≤ 1000000) (hs1 : SortedF cmI d a m) (hs2 : SortedF cmI d m b) (hnone : m ≠ a + 1) (hlast : b = m + 1) :
    Calls Try.prog 101 #[.slice (some ⟨R, 0, none⟩) N c, .int .i64 a, .int .i64 m, .int .i64 b, .func (.func 34) #[] #[]] w fun e w' => e = .returned (.tuple #[]) ∧ ∃ d', OwnF R N d' w' ∧ PermF a b d d' ∧ SortedF cmI d' a b ∧ Below R w w' := by
  have OW := Lib.hid how
  have S1 := Lib.hid hs1
  have S2 := Lib.hid hs2
  clear how hs1 hs2
  go_enter Try.func101, Try.ntmps101
  have hd1 : ¬ (m : Int) - (a : Int) = 1 := by omega
  have hd2 : ((m : Int) - (a : Int) == 1) = false := by simpa using hd1
  have hd3 : (b : Int) - (m : Int) = 1 := by omega
  have LAST := Lib.hid hlast
  clear hlast hnone
  go_wp2_with fail
  go_loopw [14, 15] (fun s14 s15 wr => ∃ (i j : Nat), a ≤ i ∧ i ≤ j ∧ j ≤ m ∧ s14 = .int .i64 i ∧ s15 = .int .i64 j ∧ Hid (∀ k, a ≤ k → k < i → 0 ≤ cmI (d m) (d k)) ∧ Hid (∀ k, j ≤ k → k < m → cmI (d m) (d k) < 0) ∧ Hid (OwnF R N d wr) ∧ Hid (Below R w wr)) (fun i j _ => (intOf j).toNat - (intOf i).toNat)
  case atStart => exact ⟨a, m, Nat.le_refl _, by omega, Nat.le_refl _, rfl, rfl, Lib.hid (fun k _ _ => by omega), Lib.hid (fun k _ _ => by omega), OW, Lib.hid (Below.refl _ _)⟩
  case round =>
    obtain ⟨i, j, hi, hij, hj, rfl, rfl, P1, P2, OD, BR⟩ := hrel
    by_cases hlt : i < j
    · obtain ⟨h, hh⟩ : ∃ h, (i + j) / 2 = h := ⟨_, rfl⟩
      have ehalf := half_is hh
      have HH := Lib.hid hh
      obtain ⟨q1, hh1⟩ : ∃ q1, m = q1 := ⟨_, rfl⟩
      obtain ⟨q2, hh2⟩ : ∃ q2, h = q2 := ⟨_, rfl⟩
      have hq1 : q1 < N := by omega
      have hq2 : q2 < N := by omega
      obtain ⟨⟨k1, s1, n1, p1, c1, u1⟩, hk1⟩ : ∃ x, d q1 = x := ⟨_, rfl⟩
      obtain ⟨⟨k2, s2, n2, p2, c2, u2⟩, hk2⟩ : ∃ x, d q2 = x := ⟨_, rfl⟩
      have o1 := OD.out.ok q1 hq1
      have o2 := OD.out.ok q2 hq2
      have z1 := hsz q1 hq1
      rw [hk1] at o1 z1
      rw [hk2] at o2
      have O1 := Lib.hid o1
      have O2 := Lib.hid o2
      have hcmp : ∀ W, Ts.At W p1 u1 → Ts.At W p2 u2 → Calls Try.prog 34 #[.agg #[.int .u8 k1, .string s1, .int .i64 n1, .slice p1 u1.len c1], .agg #[.int .u8 k2, .string s2, .int .i64 n2, .slice p2 u2.len c2]] W fun e w' => e = .returned (.int .i64 (cmI (d q1) (d q2))) ∧ Below W.heap.size W w' := by
        intro W h h'
        rw [hk1, hk2]
        exact compare_any z1 O1.out.2.2.2.2.2.1 O2.out.2.2.2.2.2.1 h h'
      obtain ⟨x, hx⟩ : ∃ x, cmI (d q1) (d q2) = x := ⟨_, rfl⟩
      have CMP := Lib.hid hcmp
      have HX := Lib.hid hx
      have K1 := Lib.hid hk1
      have K2 := Lib.hid hk2
      have Q1 := Lib.hid hq1
      have Q2 := Lib.hid hq2
      clear hk1 hk2 o1 o2 z1 hcmp hx
      have t1 : (m : Int) < (N : Int) := by omega
      have t2 : (h : Int) < (N : Int) := by omega
      clear hh
      go_wp2_with fail
      subst hh1; subst hh2
      refine region_by_facts (fun W => Below R w W ∧ OwnF R N d W)
        [fun v _ => v = .func (.func 34) #[] #[], fun v _ => v = .slice (some ⟨R, 0, none⟩) N c, fun v _ => v = .int .i64 m, fun v _ => v = .pointer (some ⟨R, m * 4, none⟩), fun v _ => v = tv k1 s1 n1 p1 u1.len c1, fun v _ => v = .slice (some ⟨R, 0, none⟩) N c, fun v _ => v = .int .i64 h, fun v _ => v = .pointer (some ⟨R, h * 4, none⟩), fun v _ => v = tv k2 s2 n2 p2 u2.len c2, fun v _ => v = .int .i64 x, fun v _ => v = .bool (decide (x < 0)), fun v _ => v = .bool (!decide (x < 0))]
        ⟨.eq _, .eq _, .eq _, .eq _, .eq _, .eq _, .eq _, .eq _, .eq _, .eq _, .eq _, .eq _, trivial⟩
        (by kernel_rfl) (by kernel_rfl) (by kernel_rfl) ?h0 ?steps ?done
      case h0 => exact ⟨below_drewN BR.out 1, OD.out.below (below_drewN (Below.refl _ _) 1)⟩
      case steps =>
        refine ⟨?_, ?_, ?_, ?_, ?_, ?_, ?_, ?_, ?_, ?_, ?_, ?_, trivial⟩
        · intro f W hI hd K hK
          simp only [frameOf, Act.put, List.setIfInBounds_toArray, List.set_cons_zero, List.set_cons_succ]
          go_simp
          refine hK.out (.func (.func 34) #[] #[]) _ W ?_ hI (Below.refl _ _) rfl
          simp only [frameOf, Act.put, List.setIfInBounds_toArray, List.set_cons_zero, List.set_cons_succ]
        · intro f W hI hd K hK
          simp only [frameOf, Act.put, List.setIfInBounds_toArray, List.set_cons_zero, List.set_cons_succ]
          go_simp
          refine hK.out (.slice (some ⟨R, 0, none⟩) N c) _ W ?_ hI (Below.refl _ _) rfl
          simp only [frameOf, Act.put, List.setIfInBounds_toArray, List.set_cons_zero, List.set_cons_succ]
        · intro f W hI hd K hK
          simp only [frameOf, Act.put, List.setIfInBounds_toArray, List.set_cons_zero, List.set_cons_succ]
          go_simp
          refine hK.out (.int .i64 m) _ W ?_ hI (Below.refl _ _) rfl
          simp only [frameOf, Act.put, List.setIfInBounds_toArray, List.set_cons_zero, List.set_cons_succ]
        · intro f W hI hd K hK
          simp only [frameOf, Act.put, List.setIfInBounds_toArray, List.set_cons_zero, List.set_cons_succ]
          have h1 : f 1 = .slice (some ⟨R, 0, none⟩) N c := hd 1 (by kernel_rfl)
          have h2 : f 2 = .int .i64 m := hd 2 (by kernel_rfl)
          rw [h1, h2]
          go_simp
          refine hK.out (.pointer (some ⟨R, m * 4, none⟩)) _ W ?_ hI (Below.refl _ _) rfl
          simp only [frameOf, Act.put, List.setIfInBounds_toArray, List.set_cons_zero, List.set_cons_succ, Nat.zero_add, Nat.reduceAdd, h1, h2]
        · intro f W hI hd K hK
          simp only [frameOf, Act.put, List.setIfInBounds_toArray, List.set_cons_zero, List.set_cons_succ]
          have h3 : f 3 = .pointer (some ⟨R, m * 4, none⟩) := hd 3 (by kernel_rfl)
          have hr := hI.2.row m Q1.out
          rw [K1.out] at hr
          obtain ⟨g0, g1, g2, g3, -⟩ := hr
          simp only at g0 g1 g2 g3
          rw [h3]
          go_simp
          refine hK.out (tv k1 s1 n1 p1 u1.len c1) _ W ?_ hI (Below.refl _ _) rfl
          simp only [tv, frameOf, Act.put, List.setIfInBounds_toArray, List.set_cons_zero, List.set_cons_succ, Nat.zero_add, Nat.reduceAdd, h3]
        · intro f W hI hd K hK
          simp only [frameOf, Act.put, List.setIfInBounds_toArray, List.set_cons_zero, List.set_cons_succ]
          go_simp
          refine hK.out (.slice (some ⟨R, 0, none⟩) N c) _ W ?_ hI (Below.refl _ _) rfl
          simp only [frameOf, Act.put, List.setIfInBounds_toArray, List.set_cons_zero, List.set_cons_succ]
        · intro f W hI hd K hK
          simp only [frameOf, Act.put, List.setIfInBounds_toArray, List.set_cons_zero, List.set_cons_succ]
          go_simp
          refine hK.out (.int .i64 h) _ W ?_ hI (Below.refl _ _) rfl
          simp only [frameOf, Act.put, List.setIfInBounds_toArray, List.set_cons_zero, List.set_cons_succ]
        · intro f W hI hd K hK
          simp only [frameOf, Act.put, List.setIfInBounds_toArray, List.set_cons_zero, List.set_cons_succ]
          have h5 : f 5 = .slice (some ⟨R, 0, none⟩) N c := hd 5 (by kernel_rfl)
          have h6 : f 6 = .int .i64 h := hd 6 (by kernel_rfl)
          rw [h5, h6]
          go_simp
          refine hK.out (.pointer (some ⟨R, h * 4, none⟩)) _ W ?_ hI (Below.refl _ _) rfl
          simp only [frameOf, Act.put, List.setIfInBounds_toArray, List.set_cons_zero, List.set_cons_succ, Nat.zero_add, Nat.reduceAdd, h5, h6]
        · intro f W hI hd K hK
          simp only [frameOf, Act.put, List.setIfInBounds_toArray, List.set_cons_zero, List.set_cons_succ]
          have h7 : f 7 = .pointer (some ⟨R, h * 4, none⟩) := hd 7 (by kernel_rfl)
          have hr := hI.2.row h Q2.out
          rw [K2.out] at hr
          obtain ⟨g0, g1, g2, g3, -⟩ := hr
          simp only at g0 g1 g2 g3
          rw [h7]
          go_simp
          refine hK.out (tv k2 s2 n2 p2 u2.len c2) _ W ?_ hI (Below.refl _ _) rfl
          simp only [tv, frameOf, Act.put, List.setIfInBounds_toArray, List.set_cons_zero, List.set_cons_succ, Nat.zero_add, Nat.reduceAdd, h7]
        · intro f W hI hd K hK
          simp only [frameOf, Act.put, List.setIfInBounds_toArray, List.set_cons_zero, List.set_cons_succ]
          have h0 : f 0 = .func (.func 34) #[] #[] := hd 0 (by kernel_rfl)
          have h4 : f 4 = tv k1 s1 n1 p1 u1.len c1 := hd 4 (by kernel_rfl)
          unfold tv at h4
          have h8 : f 8 = tv k2 s2 n2 p2 u2.len c2 := hd 8 (by kernel_rfl)
          unfold tv at h8
          rw [h0, h4, h8]
          go_simp
          have ra := hI.2.row m Q1.out
          rw [K1.out] at ra
          have rb := hI.2.row h Q2.out
          rw [K2.out] at rb
          obtain ⟨-, -, -, -, ta⟩ := ra
          obtain ⟨-, -, -, -, tb⟩ := rb
          refine (CMP.out W ta.at tb.at).mono ?_
          rintro e w' ⟨rfl, hB⟩
          rw [HX.out]
          refine hK.out (.int .i64 x) _ _ ?_ ⟨hI.1.trans (hB.mono (by have := hI.2.lt; omega)), hI.2.below hB⟩ hB rfl
          simp only [frameOf, Act.put, List.setIfInBounds_toArray, List.set_cons_zero, List.set_cons_succ, Nat.zero_add, Nat.reduceAdd, h0, h4, h8]
        · intro f W hI hd K hK
          simp only [frameOf, Act.put, List.setIfInBounds_toArray, List.set_cons_zero, List.set_cons_succ]
          have h9 : f 9 = .int .i64 x := hd 9 (by kernel_rfl)
          rw [h9]
          go_simp
          refine hK.out (.bool (decide (x < 0))) _ W ?_ hI (Below.refl _ _) rfl
          simp only [frameOf, Act.put, List.setIfInBounds_toArray, List.set_cons_zero, List.set_cons_succ, Nat.zero_add, Nat.reduceAdd, h9]
        · intro f W hI hd K hK
          simp only [frameOf, Act.put, List.setIfInBounds_toArray, List.set_cons_zero, List.set_cons_succ]
          have h10 : f 10 = .bool (decide (x < 0)) := hd 10 (by kernel_rfl)
          rw [h10]
          go_simp
          refine hK.out (.bool (!decide (x < 0))) _ W ?_ hI (Below.refl _ _) rfl
          simp only [frameOf, Act.put, List.setIfInBounds_toArray, List.set_cons_zero, List.set_cons_succ, Nat.zero_add, Nat.reduceAdd, h10]
      case done =>
        intro f W hI hF
        have hlast : f 11 = .bool (!decide (x < 0)) := hF 11 (by decide)
        simp only [frameOf, Act.put, List.setIfInBounds_toArray, List.set_cons_zero, List.set_cons_succ]
        rw [hlast]
        clear hF hlast
        obtain ⟨hBW, hOW⟩ := hI
        replace BR := Lib.hid hBW
        replace OD := Lib.hid hOW
        clear hBW hOW
        by_cases hlx : x < 0
        · rw [decide_eq_true hlx]
          have HL := Lib.hid hlx
          clear hlx
          go_wp2
          go_roundw
          case rel =>
            have hh := HH.out
            exact ⟨i, h, hi, by omega, by omega, rfl, rfl, P1, Lib.hid (down_more cmI_cmp (d m) S1.out (by omega) (by rw [HX.out]; exact HL.out)), OD, BR⟩
          case measure =>
            have hh := HH.out
            simp [intOf]; omega
        · rw [decide_eq_false hlx]
          have HL := Lib.hid hlx
          clear hlx
          go_wp2
          go_roundw
          case rel =>
            have hh := HH.out
            exact ⟨h + 1, j, by omega, by omega, hj, by go_num, rfl, Lib.hid (fun k g g' => by have := down_less cmI_cmp (d m) S1.out (by omega) (by rw [HX.out]; exact HL.out) k g g'; omega), P2, OD, BR⟩
          case measure =>
            have hh := HH.out
            simp [intOf]; omega
    · obtain rfl : i = j := by omega
      have SD := Lib.hid (down_sorted cmI_cmp (d := d) (a := a) (m := m) (i := i) S1.out hi hj (fun k g g' => by have := P1.out k g g'; omega) P2.out)
      go_wp2_with fail
      go_loopw [17] (fun s17 wr => ∃ (k : Nat), i ≤ k ∧ k ≤ m ∧ s17 = .int .i64 k ∧ Hid (OwnF R N (movedDown d m k) wr) ∧ Hid (Below R w wr)) (fun k _ => (intOf k).toNat)
      case atStart => exact ⟨m, hj, Nat.le_refl _, rfl, Lib.hid (by rw [movedDown_start]; exact OD.out), BR⟩
      case round =>
        obtain ⟨k, hk, hke, rfl, OD, BR⟩ := hrel
        by_cases hlt2 : i < k
        · obtain ⟨D, hD⟩ : ∃ D, movedDown d m k = D := ⟨_, rfl⟩
          rw [hD] at OD
          have HD := Lib.hid hD
          clear hD
          obtain ⟨kk, hkk⟩ : ∃ kk, k - 1 = kk := ⟨_, rfl⟩
          have ek : (k : Int) - 1 = (kk : Int) := by omega
          have t1 : (k : Int) < (N : Int) := by omega
          have t2 : (kk : Int) < (N : Int) := by omega
          have HK : Hid (k = kk + 1) := Lib.hid (by omega)
          obtain ⟨⟨k1, s1, n1, p1, c1, u1⟩, hk1⟩ : ∃ x, D k = x := ⟨_, rfl⟩
          obtain ⟨⟨k2, s2, n2, p2, c2, u2⟩, hk2⟩ : ∃ x, D kk = x := ⟨_, rfl⟩
          have ra := OD.out.row k (by omega)
          have rb := OD.out.row kk (by omega)
          rw [hk1] at ra
          rw [hk2] at rb
          obtain ⟨a0, a1, a2, a3, -⟩ := ra
          obtain ⟨b0, b1, b2, b3, -⟩ := rb
          simp only at a0 a1 a2 a3 b0 b1 b2 b3
          have fr := OD.out.fr
          have f0 := fr (k * 4)
          have g0 := fr (kk * 4)
          have f1 := fr (k * 4 + 1)
          have g1 := fr (kk * 4 + 1)
          have f2 := fr (k * 4 + 2)
          have g2 := fr (kk * 4 + 2)
          have f3 := fr (k * 4 + 3)
          have g3 := fr (kk * 4 + 3)
          have K1 := Lib.hid hk1
          have K2 := Lib.hid hk2
          clear fr hk1 hk2
          go_wp2_with fail
          go_big_region
          obtain ⟨W9, hW9, hO9, hB9⟩ := swapF_step OD.out (i := k) (j := kk) (by omega) (by omega) (by omega) BR.out
          rw [K1.out, K2.out] at hW9
          simp only at hW9
          rw [← hW9]
          have OS := Lib.hid (hO9.below (below_drewN (Below.refl _ W9) 1))
          have BS := Lib.hid (below_drewN hB9 1)
          have Z9 := Lib.hid hW9
          clear hW9 hO9 hB9 a0 a1 a2 a3 b0 b1 b2 b3 f0 f1 f2 f3 g0 g1 g2 g3
          go_wp2
          go_roundw
          case rel => exact ⟨kk, by omega, by omega, rfl, Lib.hid (by rw [movedDown_step d (by omega), ← HK.out, HD.out]; exact OS.out), BS⟩
          case measure => simp [intOf]; omega
        · obtain rfl : k = i := by omega
          have P := Lib.hid (movedDown_perm d (a := a) (m := m) (m - k) (by omega))
          go_wp2
          refine bodyPost_ret (v := .tuple #[]) (results_none rfl _ _ _) rfl ?_
          refine ⟨rfl, movedDown d m k, OD.out, ?_, ?_, BR.out⟩
          · have := P.out
            rw [LAST.out]
            rwa [show m - (m - k) = k by omega] at this
          · rw [LAST.out]
            exact SD.out

end Go.Proofs.Ytlhclblekpngnaa
