/-
  Layer 2: insertion into a list of its own, walked. (Written by gen_xg.py.)
-/
import Derived.Test.YtlhclblekpngnaaXf
import Derived.BigRegion
namespace Go.Proofs.Ytlhclblekpngnaa
open Go.RowKit

set_option maxRecDepth 100000 in
set_option maxHeartbeats 20000000 in
theorem insert_any (R : Nat) (c a b : Nat) (us : Ts) (w : World) (how : OwnS R us w) (hab : a ≤ b) (hb : b ≤ us.len) (hsz : us.size ≤ 1000000) (hc : us.len ≤ c ∧ c ≤ 9223372036854775807) :
    Calls Try.prog 100 #[.slice (some ⟨R, 0, none⟩) us.len c, .int .i64 a, .int .i64 b, .func (.func 34) #[] #[]] w fun e w' => e = .returned (.tuple #[]) ∧ OwnS R (insOut a (b - (a + 1)) (a + 1) us) w' ∧ Below R w w' := by
  have OW := Lib.hid how
  have hls := Ts.len_size us
  clear how
  go_enter Try.func100, Try.ntmps100
  go_wp2_with fail
  go_loopw [8] (fun s8 wr => ∃ (i : Nat) (cur : Ts), s8 = .int .i64 i ∧ a < i ∧ i ≤ b + 1 ∧ Hid (insOut a (b - i) i cur = insOut a (b - (a + 1)) (a + 1) us) ∧ Hid (cur.len = us.len ∧ cur.size = us.size) ∧ Hid (OwnS R cur wr) ∧ Hid (Below R w wr)) (fun i _ => b + 1 - (intOf i).toNat)
  case atStart => exact ⟨a + 1, us, by go_num, by omega, by omega, Lib.hid rfl, Lib.hid ⟨rfl, rfl⟩, OW, Lib.hid (Below.refl _ _)⟩
  case round =>
    obtain ⟨i, cur, rfl, hai, hib, HO, HL, OC, BO⟩ := hrel
    by_cases hlt : i < b
    · go_wp2_with fail
      go_loopw [9] (fun s9 wr => ∃ (j : Nat) (cj : Ts), s9 = .int .i64 j ∧ a ≤ j ∧ j ≤ i ∧ Hid (insIn a j cj = insIn a i cur) ∧ Hid (cj.len = us.len ∧ cj.size = us.size) ∧ Hid (OwnS R cj wr) ∧ Hid (Below R w wr)) (fun j _ => (intOf j).toNat)
      case atStart => exact ⟨i, cur, rfl, by omega, Nat.le_refl _, Lib.hid rfl, HL, OC, BO⟩
      case round =>
        obtain ⟨j, cj, rfl, haj, hji, HI, HL', OJ, BJ⟩ := hrel
        by_cases hja : a < j
        · obtain ⟨jp, rfl⟩ : ∃ jp, j = jp + 1 := ⟨j - 1, by omega⟩
          have hll : jp + 1 < cj.len := by rw [HL'.out.1]; omega
          obtain ⟨k, s, n, p, cc, ks, k', s', n', p', cc', ks', r, hd⟩ := two_at hll
          have hd' := Ts.drop_succ jp cj hd
          have HD := Lib.hid hd
          have HD' := Lib.hid hd'
          have hok := Ts.ok_drop jp cj OJ.out.ok
          rw [hd] at hok
          have hsd := Ts.drop_size jp cj
          rw [hd, HL'.out.2] at hsd
          simp only [Ts.size] at hsd
          have OKK := Lib.hid hok
          have hcmp : ∀ W, Ts.At W p' ks' → Ts.At W p ks → Calls Try.prog 34 #[.agg #[.int .u8 k', .string s', .int .i64 n', .slice p' ks'.len cc'], .agg #[.int .u8 k, .string s, .int .i64 n, .slice p ks.len cc]] W fun e w' => e = .returned (.int .i64 (cmpT k' k s' s n' n ks' ks (cmpL ks' ks))) ∧ Below W.heap.size W w' :=
            fun W h h' => compare_any (by omega) OKK.out.2.2.2.2.2.2.2.2.2.2.2.1 OKK.out.2.2.2.2.2.1 h h'
          have CMP := Lib.hid hcmp
          obtain ⟨x, hx⟩ : ∃ x, cmpT k' k s' s n' n ks' ks (cmpL ks' ks) = x := ⟨_, rfl⟩
          have HX := Lib.hid hx
          have hlA : ltAt jp cj = decide (x < 0) := by
            unfold ltAt
            rw [hd, ← hx]
          have HA := Lib.hid hlA
          obtain ⟨ji, hji'⟩ : ∃ ji : Int, ((jp + 1 : Nat) : Int) = ji := ⟨_, rfl⟩
          rw [hji']
          have JI := Lib.hid hji'
          have z1 : ji < (us.len : Int) := by have := HL'.out.1; omega
          have z2 : (jp : Int) < (us.len : Int) := by omega
          have z3 : (a : Int) < ji := by omega
          have p0 : (0 : Int) ≤ ji := by omega
          have e0 : ji.toNat = jp + 1 := by omega
          clear hji'
          clear hd hd' hok hcmp hx hlA hll
          go_wp2_with fail
          refine region_by_facts (fun W => Below R w W ∧ OwnS R cj W)
            [fun v _ => v = .int .i64 ji, fun v _ => v = .int .i64 a, fun v _ => v = .bool true, fun v _ => v = .bool true, fun v _ => v = .func (.func 34) #[] #[], fun v _ => v = .slice (some ⟨R, 0, none⟩) us.len c, fun v _ => v = .int .i64 ji, fun v _ => v = .pointer (some ⟨R, (jp + 1) * 4, none⟩), fun v _ => v = tv k' s' n' p' ks'.len cc', fun v _ => v = .slice (some ⟨R, 0, none⟩) us.len c, fun v _ => v = .int .i64 ji, fun v _ => v = .int .i64 (jp : Int), fun v _ => v = .pointer (some ⟨R, jp * 4, none⟩), fun v _ => v = tv k s n p ks.len cc, fun v _ => v = .int .i64 x, fun v _ => v = .bool (decide (x < 0)), fun v _ => v = .bool (decide (x < 0))]
            ⟨.eq _, .eq _, .eq _, .eq _, .eq _, .eq _, .eq _, .eq _, .eq _, .eq _, .eq _, .eq _, .eq _, .eq _, .eq _, .eq _, .eq _, trivial⟩
            (by kernel_rfl) (by kernel_rfl) (by kernel_rfl) ?h0 ?steps ?done
          case h0 => exact ⟨below_drewN BJ.out 1, OJ.out.below (below_drewN (Below.refl _ _) 1)⟩
          case steps =>
            refine ⟨?_, ?_, ?_, ?_, ?_, ?_, ?_, ?_, ?_, ?_, ?_, ?_, ?_, ?_, ?_, ?_, ?_, trivial⟩
            · intro f W hI hd K hK
              simp only [frameOf, Act.put, List.setIfInBounds_toArray, List.set_cons_zero, List.set_cons_succ]
              go_simp
              refine hK.out (.int .i64 ji) _ W ?_ hI (Below.refl _ _) rfl
              simp only [frameOf, Act.put, List.setIfInBounds_toArray, List.set_cons_zero, List.set_cons_succ]
            · intro f W hI hd K hK
              simp only [frameOf, Act.put, List.setIfInBounds_toArray, List.set_cons_zero, List.set_cons_succ]
              go_simp
              refine hK.out (.int .i64 a) _ W ?_ hI (Below.refl _ _) rfl
              simp only [frameOf, Act.put, List.setIfInBounds_toArray, List.set_cons_zero, List.set_cons_succ]
            · intro f W hI hd K hK
              simp only [frameOf, Act.put, List.setIfInBounds_toArray, List.set_cons_zero, List.set_cons_succ]
              have h0 : f 0 = .int .i64 ji := hd 0 (by kernel_rfl)
              have h1 : f 1 = .int .i64 a := hd 1 (by kernel_rfl)
              rw [h0, h1]
              go_simp
              refine hK.out (.bool true) _ W ?_ hI (Below.refl _ _) rfl
              simp only [frameOf, Act.put, List.setIfInBounds_toArray, List.set_cons_zero, List.set_cons_succ, Nat.zero_add, Nat.reduceAdd, h0, h1]
            · intro f W hI hd K hK
              simp only [frameOf, Act.put, List.setIfInBounds_toArray, List.set_cons_zero, List.set_cons_succ]
              have h2 : f 2 = .bool true := hd 2 (by kernel_rfl)
              rw [h2]
              go_simp
              refine hK.out (.bool true) _ W ?_ hI (Below.refl _ _) rfl
              simp only [frameOf, Act.put, List.setIfInBounds_toArray, List.set_cons_zero, List.set_cons_succ, Nat.zero_add, Nat.reduceAdd, h2]
            · intro f W hI hd K hK
              simp only [frameOf, Act.put, List.setIfInBounds_toArray, List.set_cons_zero, List.set_cons_succ]
              have h3 : f 3 = .bool true := hd 3 (by kernel_rfl)
              rw [h3]
              go_simp
              refine hK.out (.func (.func 34) #[] #[]) _ W ?_ hI (Below.refl _ _) rfl
              simp only [frameOf, Act.put, List.setIfInBounds_toArray, List.set_cons_zero, List.set_cons_succ, Nat.zero_add, Nat.reduceAdd, h3]
            · intro f W hI hd K hK
              simp only [frameOf, Act.put, List.setIfInBounds_toArray, List.set_cons_zero, List.set_cons_succ]
              have h3 : f 3 = .bool true := hd 3 (by kernel_rfl)
              rw [h3]
              go_simp
              refine hK.out (.slice (some ⟨R, 0, none⟩) us.len c) _ W ?_ hI (Below.refl _ _) rfl
              simp only [frameOf, Act.put, List.setIfInBounds_toArray, List.set_cons_zero, List.set_cons_succ, Nat.zero_add, Nat.reduceAdd, h3]
            · intro f W hI hd K hK
              simp only [frameOf, Act.put, List.setIfInBounds_toArray, List.set_cons_zero, List.set_cons_succ]
              have h3 : f 3 = .bool true := hd 3 (by kernel_rfl)
              rw [h3]
              go_simp
              refine hK.out (.int .i64 ji) _ W ?_ hI (Below.refl _ _) rfl
              simp only [frameOf, Act.put, List.setIfInBounds_toArray, List.set_cons_zero, List.set_cons_succ, Nat.zero_add, Nat.reduceAdd, h3]
            · intro f W hI hd K hK
              simp only [frameOf, Act.put, List.setIfInBounds_toArray, List.set_cons_zero, List.set_cons_succ]
              have h3 : f 3 = .bool true := hd 3 (by kernel_rfl)
              have h5 : f 5 = .slice (some ⟨R, 0, none⟩) us.len c := hd 5 (by kernel_rfl)
              have h6 : f 6 = .int .i64 ji := hd 6 (by kernel_rfl)
              rw [h3, h5, h6]
              go_simp
              refine hK.out (.pointer (some ⟨R, (jp + 1) * 4, none⟩)) _ W ?_ hI (Below.refl _ _) rfl
              simp only [frameOf, Act.put, List.setIfInBounds_toArray, List.set_cons_zero, List.set_cons_succ, Nat.zero_add, Nat.reduceAdd, h3, h5, h6]
            · intro f W hI hd K hK
              simp only [frameOf, Act.put, List.setIfInBounds_toArray, List.set_cons_zero, List.set_cons_succ]
              have h3 : f 3 = .bool true := hd 3 (by kernel_rfl)
              have h7 : f 7 = .pointer (some ⟨R, (jp + 1) * 4, none⟩) := hd 7 (by kernel_rfl)
              obtain ⟨k0, k1, k2, k3, -⟩ := hI.2.row.get HD'.out
              simp only [Nat.zero_add] at k0 k1 k2 k3
              rw [h3, h7]
              go_simp
              refine hK.out (tv k' s' n' p' ks'.len cc') _ W ?_ hI (Below.refl _ _) rfl
              simp only [tv, frameOf, Act.put, List.setIfInBounds_toArray, List.set_cons_zero, List.set_cons_succ, Nat.zero_add, Nat.reduceAdd, h3, h7]
            · intro f W hI hd K hK
              simp only [frameOf, Act.put, List.setIfInBounds_toArray, List.set_cons_zero, List.set_cons_succ]
              have h3 : f 3 = .bool true := hd 3 (by kernel_rfl)
              rw [h3]
              go_simp
              refine hK.out (.slice (some ⟨R, 0, none⟩) us.len c) _ W ?_ hI (Below.refl _ _) rfl
              simp only [frameOf, Act.put, List.setIfInBounds_toArray, List.set_cons_zero, List.set_cons_succ, Nat.zero_add, Nat.reduceAdd, h3]
            · intro f W hI hd K hK
              simp only [frameOf, Act.put, List.setIfInBounds_toArray, List.set_cons_zero, List.set_cons_succ]
              have h3 : f 3 = .bool true := hd 3 (by kernel_rfl)
              rw [h3]
              go_simp
              refine hK.out (.int .i64 ji) _ W ?_ hI (Below.refl _ _) rfl
              simp only [frameOf, Act.put, List.setIfInBounds_toArray, List.set_cons_zero, List.set_cons_succ, Nat.zero_add, Nat.reduceAdd, h3]
            · intro f W hI hd K hK
              simp only [frameOf, Act.put, List.setIfInBounds_toArray, List.set_cons_zero, List.set_cons_succ]
              have h3 : f 3 = .bool true := hd 3 (by kernel_rfl)
              have h10 : f 10 = .int .i64 ji := hd 10 (by kernel_rfl)
              rw [h3, h10]
              go_simp
              have hab2 : IntKind.i64.wrap (ji - 1) = (jp : Int) := by have := JI.out; rw [IntKind.wrap_i64]; omega
              refine hK.out (.int .i64 (jp : Int)) _ W ?_ hI (Below.refl _ _) rfl
              simp only [frameOf, Act.put, List.setIfInBounds_toArray, List.set_cons_zero, List.set_cons_succ, Nat.zero_add, Nat.reduceAdd, h3, h10, hab2]
            · intro f W hI hd K hK
              simp only [frameOf, Act.put, List.setIfInBounds_toArray, List.set_cons_zero, List.set_cons_succ]
              have h3 : f 3 = .bool true := hd 3 (by kernel_rfl)
              have h9 : f 9 = .slice (some ⟨R, 0, none⟩) us.len c := hd 9 (by kernel_rfl)
              have h11 : f 11 = .int .i64 (jp : Int) := hd 11 (by kernel_rfl)
              rw [h3, h9, h11]
              go_simp
              refine hK.out (.pointer (some ⟨R, jp * 4, none⟩)) _ W ?_ hI (Below.refl _ _) rfl
              simp only [frameOf, Act.put, List.setIfInBounds_toArray, List.set_cons_zero, List.set_cons_succ, Nat.zero_add, Nat.reduceAdd, h3, h9, h11]
            · intro f W hI hd K hK
              simp only [frameOf, Act.put, List.setIfInBounds_toArray, List.set_cons_zero, List.set_cons_succ]
              have h3 : f 3 = .bool true := hd 3 (by kernel_rfl)
              have h12 : f 12 = .pointer (some ⟨R, jp * 4, none⟩) := hd 12 (by kernel_rfl)
              obtain ⟨k0, k1, k2, k3, -⟩ := hI.2.row.get HD.out
              simp only [Nat.zero_add] at k0 k1 k2 k3
              rw [h3, h12]
              go_simp
              refine hK.out (tv k s n p ks.len cc) _ W ?_ hI (Below.refl _ _) rfl
              simp only [tv, frameOf, Act.put, List.setIfInBounds_toArray, List.set_cons_zero, List.set_cons_succ, Nat.zero_add, Nat.reduceAdd, h3, h12]
            · intro f W hI hd K hK
              simp only [frameOf, Act.put, List.setIfInBounds_toArray, List.set_cons_zero, List.set_cons_succ]
              have h3 : f 3 = .bool true := hd 3 (by kernel_rfl)
              have h4 : f 4 = .func (.func 34) #[] #[] := hd 4 (by kernel_rfl)
              have h8 : f 8 = tv k' s' n' p' ks'.len cc' := hd 8 (by kernel_rfl)
              unfold tv at h8
              have h13 : f 13 = tv k s n p ks.len cc := hd 13 (by kernel_rfl)
              unfold tv at h13
              rw [h3, h4, h8, h13]
              go_simp
              obtain ⟨-, -, -, -, ata, -⟩ := hI.2.row.get HD.out
              obtain ⟨-, -, -, -, atb, -⟩ := hI.2.row.get HD'.out
              refine (CMP.out W atb.at ata.at).mono ?_
              rintro e w' ⟨rfl, hB⟩
              rw [HX.out]
              refine hK.out (.int .i64 x) _ _ ?_ ⟨hI.1.trans (hB.mono (by have := hI.2.lt; omega)), hI.2.below hB⟩ hB rfl
              simp only [frameOf, Act.put, List.setIfInBounds_toArray, List.set_cons_zero, List.set_cons_succ, Nat.zero_add, Nat.reduceAdd, h3, h4, h8, h13]
            · intro f W hI hd K hK
              simp only [frameOf, Act.put, List.setIfInBounds_toArray, List.set_cons_zero, List.set_cons_succ]
              have h3 : f 3 = .bool true := hd 3 (by kernel_rfl)
              have h14 : f 14 = .int .i64 x := hd 14 (by kernel_rfl)
              rw [h3, h14]
              go_simp
              refine hK.out (.bool (decide (x < 0))) _ W ?_ hI (Below.refl _ _) rfl
              simp only [frameOf, Act.put, List.setIfInBounds_toArray, List.set_cons_zero, List.set_cons_succ, Nat.zero_add, Nat.reduceAdd, h3, h14]
            · intro f W hI hd K hK
              simp only [frameOf, Act.put, List.setIfInBounds_toArray, List.set_cons_zero, List.set_cons_succ]
              have h3 : f 3 = .bool true := hd 3 (by kernel_rfl)
              have h15 : f 15 = .bool (decide (x < 0)) := hd 15 (by kernel_rfl)
              rw [h3, h15]
              go_simp
              refine hK.out (.bool (decide (x < 0))) _ W ?_ hI (Below.refl _ _) rfl
              simp only [frameOf, Act.put, List.setIfInBounds_toArray, List.set_cons_zero, List.set_cons_succ, Nat.zero_add, Nat.reduceAdd, h3, h15]
          case done =>
            intro f W hI hF
            have h16 : f 16 = .bool (decide (x < 0)) := hF 16 (by decide)
            simp only [frameOf, Act.put, List.setIfInBounds_toArray, List.set_cons_zero, List.set_cons_succ]
            rw [h16]
            clear hF h16
            obtain ⟨hBW, hOW⟩ := hI
            replace BJ := Lib.hid hBW
            replace OJ := Lib.hid hOW
            clear hBW hOW
            by_cases hlx : x < 0
            · obtain ⟨a0, a1, a2, a3, -⟩ := OJ.out.row.get HD.out
              obtain ⟨b0, b1, b2, b3, -⟩ := OJ.out.row.get HD'.out
              simp only [Nat.zero_add] at a0 a1 a2 a3 b0 b1 b2 b3
              have fr := OJ.out.fr
              have f0 := fr (jp * 4)
              have f1 := fr (jp * 4 + 1)
              have f2 := fr (jp * 4 + 2)
              have f3 := fr (jp * 4 + 3)
              have g0 := fr ((jp + 1) * 4)
              have g1 := fr ((jp + 1) * 4 + 1)
              have g2 := fr ((jp + 1) * 4 + 2)
              have g3 := fr ((jp + 1) * 4 + 3)
              clear fr
              go_wp2_with fail
              go_big_region
              obtain ⟨W9, hW9, hO9, hB9⟩ := swap_step OJ.out HD.out BJ.out
              rw [← hW9]
              have OS := Lib.hid (hO9.below (below_drewN (Below.refl _ W9) 1))
              have BS := Lib.hid (below_drewN hB9 1)
              have hgo := insIn_go (a := a) (j := jp) (ts := cj) (by omega) (by rw [HA.out]; first | done | exact decide_eq_true hlx)
              have HG := Lib.hid (hgo.symm.trans HI.out)
              have Z9 := Lib.hid hW9
              clear hW9 hO9 hB9 hgo a0 a1 a2 a3 b0 b1 b2 b3 f0 f1 f2 f3 g0 g1 g2 g3
              have hw9 : IntKind.i64.wrap (ji - 1) = (jp : Int) := by have := JI.out; rw [IntKind.wrap_i64]; omega
              have hw8 : ji - 1 = (jp : Int) := by have := JI.out; omega
              go_wp2
              go_roundw
              case rel => exact ⟨jp, cj.swap jp, by first | rfl | go_num | (congr 1; omega), by omega, by omega, HG, Lib.hid ⟨by rw [swap_len]; exact HL'.out.1, by rw [swap_size]; exact HL'.out.2⟩, OS, BS⟩
              case measure => simp [intOf]; omega
            · rw [decide_eq_false hlx] at *
              have hs := insIn_stop (a := a) (j := jp + 1) (ts := cj) (.inr ⟨jp, rfl, by rw [HA.out]; first | done | exact decide_eq_false hlx⟩)
              have HS := Lib.hid (hs.symm.trans HI.out)
              clear hs
              go_wp2
              go_roundw
              case rel => exact ⟨i + 1, cj, by go_num, by omega, by omega, Lib.hid (by rw [HS.out, ← insOut_go hlt]; exact HO.out), HL', OJ, BJ⟩
              case measure => simp [intOf]; omega
        · have hs := insIn_stop (a := a) (j := j) (ts := cj) (.inl (by omega))
          have HS := Lib.hid (hs.symm.trans HI.out)
          have hjz : decide ((j : Int) > (a : Int)) = false := decide_eq_false (by omega)
          have hjz' : ¬ (a : Int) < (j : Int) := by omega
          clear hs
          go_wp2_with fail
          go_quiet (fail)
          go_wp2
          go_roundw
          case rel => exact ⟨i + 1, cj, by go_num, by omega, by omega, Lib.hid (by rw [HS.out, ← insOut_go hlt]; exact HO.out), HL', Lib.hid (OJ.out.below (below_drewN (Below.refl _ _) _)), Lib.hid (below_drewN BJ.out _)⟩
          case measure => simp [intOf]; omega
    · go_wp2
      go_end0
      refine ⟨rfl, ?_, BO.out⟩
      have h1 := HO.out
      rw [show b - i = 0 from by omega] at h1
      rw [← h1]
      exact OC.out

end Go.Proofs.Ytlhclblekpngnaa
