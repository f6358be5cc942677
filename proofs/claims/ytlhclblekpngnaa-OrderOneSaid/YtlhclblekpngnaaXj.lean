/-
  The law OrderOne, walked. (Written by gen_xj.py.)
-/
import Derived.Test.YtlhclblekpngnaaXi
import Derived.Test.YtlhclblekpngnaaXd
import Derived.Test.YtlhclblekpngnaaUa
namespace Go.Proofs.Ytlhclblekpngnaa
open Go.RowKit

theorem wrap_small {x : Int} (h : -9223372036854775808 ≤ x ∧ x ≤ 9223372036854775807) : wrap64 x = x := by
  unfold wrap64
  omega

set_option maxRecDepth 100000 in
set_option maxHeartbeats 20000000 in
theorem orderOne_true (w : World) (ka : Int) (sa : ByteArray) (na : Int) (pa : Option Addr) (ca : Nat) (ta : Ts) (kb : Int) (sb : ByteArray) (nb : Int) (pb : Option Addr) (cb' : Nat) (tb : Ts) (kc : Int) (sc : ByteArray) (nc : Int) (pc : Option Addr) (cc : Nat) (tc : Ts)
    (hoka : Ts.ok (.cons ka sa na pa ca ta .nil)) (hata : Ts.At w pa ta) (hokb : Ts.ok (.cons kb sb nb pb cb' tb .nil)) (hatb : Ts.At w pb tb) (hokc : Ts.ok (.cons kc sc nc pc cc tc .nil)) (hatc : Ts.At w pc tc) :
    Calls Try.prog 9 #[tv ka sa na pa ta.len ca, tv kb sb nb pb tb.len cb', tv kc sc nc pc tc.len cc] w fun e w' => e = .returned (.bool true) ∧ Below w.heap.size w w' := by
  unfold tv
  have OKA := Lib.hid hoka
  have OKB := Lib.hid hokb
  have OKC := Lib.hid hokc
  have ATA := Lib.hid hata
  have ATB := Lib.hid hatb
  have ATC := Lib.hid hatc
  have hsa := hoka.2.1
  have hsb := hokb.2.1
  have hsc := hokc.2.1
  have ok3 : Ts.ok (.cons ka sa na pa ca ta (.cons kb sb nb pb cb' tb (.cons kc sc nc pc cc tc .nil))) := ⟨hoka.1, hoka.2.1, hoka.2.2.1, hoka.2.2.2.1, hoka.2.2.2.2.1, hoka.2.2.2.2.2.1, hokb.1, hokb.2.1, hokb.2.2.1, hokb.2.2.2.1, hokb.2.2.2.2.1, hokb.2.2.2.2.2.1, hokc⟩
  have OK3 := Lib.hid ok3
  clear hoka hokb hokc hata hatb hatc ok3
  go_enter Try.func9, Try.ntmps9
  go_wp2_with fail
  obtain ⟨W0, hW0, hs0, hA0, hTa, hTb⟩ := box2 w #[Value.int IntKind.u8 ka, Value.string sa, Value.int IntKind.i64 na, Value.slice pa ta.len ca] #[Value.int IntKind.u8 kb, Value.string sb, Value.int IntKind.i64 nb, Value.slice pb tb.len cb'] 24 24
  rw [← hW0]
  have Z0 := Lib.hid hW0
  clear hW0
  have TA : TT w w.heap.size ka sa na pa ca ta W0 := ⟨hA0, by omega, hTa 0 _ rfl, hTa 1 _ rfl, hTa 2 _ rfl, hTa 3 _ rfl, ATA.out.below hA0⟩
  have TB : TT w (w.heap.size + 1) kb sb nb pb cb' tb W0 := ⟨hA0, by omega, hTb 0 _ rfl, hTb 1 _ rfl, hTb 2 _ rfl, hTb 3 _ rfl, ATB.out.below hA0⟩
  obtain ⟨W1, hW1, hs1, hA1, hTc⟩ := box1 W0 #[Value.int IntKind.u8 kc, Value.string sc, Value.int IntKind.i64 nc, Value.slice pc tc.len cc] 24
  rw [← hW1]
  have Z1 := Lib.hid hW1
  clear hW1 hTa hTb
  have TC : TT w (w.heap.size + 1 + 1) kc sc nc pc cc tc W1 := ⟨hA0.trans (hA1.mono hA0.size), by omega, by rw [show w.heap.size + 1 + 1 = W0.heap.size by omega]; exact hTc 0 _ rfl, by rw [show w.heap.size + 1 + 1 = W0.heap.size by omega]; exact hTc 1 _ rfl, by rw [show w.heap.size + 1 + 1 = W0.heap.size by omega]; exact hTc 2 _ rfl, by rw [show w.heap.size + 1 + 1 = W0.heap.size by omega]; exact hTc 3 _ rfl, (ATC.out.below hA0).below hA1⟩
  replace TA := TA.below hA1
  replace TB := TB.below hA1
  obtain ⟨W2, hW2, hs2, hA2, hc2⟩ := box1 W1 #[Value.int IntKind.u8 ka, Value.string sa, Value.int IntKind.i64 na, Value.slice pa ta.len ca, Value.int IntKind.u8 kb, Value.string sb, Value.int IntKind.i64 nb, Value.slice pb tb.len cb', Value.int IntKind.u8 kc, Value.string sc, Value.int IntKind.i64 nc, Value.slice pc tc.len cc] 24
  rw [← hW2]
  have Z2 := Lib.hid hW2
  clear hW2 hTc hA0 hA1
  replace TA := TA.below hA2
  replace TB := TB.below hA2
  replace TC := TC.below hA2
  rw [show w.heap.size + 1 + 1 + 1 = W1.heap.size by omega]
  have at3 : Ts.At W2 (some ⟨W1.heap.size, 0, none⟩) (.cons ka sa na pa ca ta (.cons kb sb nb pb cb' tb (.cons kc sc nc pc cc tc .nil))) := ⟨_, 0, .inr rfl, hc2 0 _ rfl, hc2 1 _ rfl, hc2 2 _ rfl, hc2 3 _ rfl, TA.tat, hc2 4 _ rfl, hc2 5 _ rfl, hc2 6 _ rfl, hc2 7 _ rfl, TB.tat, hc2 8 _ rfl, hc2 9 _ rfl, hc2 10 _ rfl, hc2 11 _ rfl, TC.tat, trivial⟩
  have L1 := Lib.hid at3
  clear hc2 hA2 at3
  by_cases hg : decide (1000 < manyP (.cons ka sa na pa ca ta (.cons kb sb nb pb cb' tb (.cons kc sc nc pc cc tc .nil))) 0) = true
  · refine (great_is (.cons ka sa na pa ca ta (.cons kb sb nb pb cb' tb (.cons kc sc nc pc cc tc .nil))) OK3.out true hg W2 _ 3 L1.out (by simp [Ts.len])).mono ?_
    rintro e w2 ⟨rfl, hB⟩
    replace TA := TA.below hB
    clear hg hB
    go_wp2_with fail
    refine (wakes2_any _).mono ?_
    rintro e w9 ⟨rfl, hB⟩
    replace TA := TA.below hB
    go_wp2
    go_ret
    exact ⟨rfl, TA.B⟩
  rw [Bool.not_eq_true] at hg
  have hsz0 := small_of_many hg
  simp only [Ts.size] at hsz0
  refine (great_is (.cons ka sa na pa ca ta (.cons kb sb nb pb cb' tb (.cons kc sc nc pc cc tc .nil))) OK3.out false hg W2 _ 3 L1.out (by simp [Ts.len])).mono ?_
  rintro e w2 ⟨rfl, hB⟩
  replace TA := TA.below hB
  replace TB := TB.below hB
  replace TC := TC.below hB
  clear hg hB L1
  have k0 := TA.c0
  have k1 := TA.c1
  have k2 := TA.c2
  have k3 := TA.c3
  go_wp2_with fail
  refine (rGood_any ta (by omega) OKA.out.2.2.2.2.2.1 ka sa na w2 pa ca hsa TA.tat).mono ?_
  rintro e w3 ⟨rfl, hB⟩
  replace TA := TA.below hB
  replace TB := TB.below hB
  replace TC := TC.below hB
  clear hB k0 k1 k2 k3
  by_cases hgd : goodB 64 ka sa na ta = false
  · rw [hgd]
    clear hgd
    go_wp2_with fail
    refine (wakes2_any _).mono ?_
    rintro e w9 ⟨rfl, hB⟩
    replace TA := TA.below hB
    go_wp2
    go_ret
    exact ⟨rfl, TA.B⟩
  rw [Bool.not_eq_false] at hgd
  rw [hgd]
  clear hgd
  have k0 := TB.c0
  have k1 := TB.c1
  have k2 := TB.c2
  have k3 := TB.c3
  go_wp2_with fail
  refine (rGood_any tb (by omega) OKB.out.2.2.2.2.2.1 kb sb nb w3 pb cb' hsb TB.tat).mono ?_
  rintro e w4 ⟨rfl, hB⟩
  replace TA := TA.below hB
  replace TB := TB.below hB
  replace TC := TC.below hB
  clear hB k0 k1 k2 k3
  by_cases hgd : goodB 64 kb sb nb tb = false
  · rw [hgd]
    clear hgd
    go_wp2_with fail
    refine (wakes2_any _).mono ?_
    rintro e w9 ⟨rfl, hB⟩
    replace TA := TA.below hB
    go_wp2
    go_ret
    exact ⟨rfl, TA.B⟩
  rw [Bool.not_eq_false] at hgd
  rw [hgd]
  clear hgd
  have k0 := TC.c0
  have k1 := TC.c1
  have k2 := TC.c2
  have k3 := TC.c3
  go_wp2_with fail
  refine (rGood_any tc (by omega) OKC.out.2.2.2.2.2.1 kc sc nc w4 pc cc hsc TC.tat).mono ?_
  rintro e w5 ⟨rfl, hB⟩
  replace TA := TA.below hB
  replace TB := TB.below hB
  replace TC := TC.below hB
  clear hB k0 k1 k2 k3
  by_cases hgd : goodB 64 kc sc nc tc = false
  · rw [hgd]
    clear hgd
    go_wp2_with fail
    refine (wakes2_any _).mono ?_
    rintro e w9 ⟨rfl, hB⟩
    replace TA := TA.below hB
    go_wp2
    go_ret
    exact ⟨rfl, TA.B⟩
  rw [Bool.not_eq_false] at hgd
  rw [hgd]
  clear hgd
  obtain ⟨x, hx⟩ : ∃ x, cmpT ka kb sa sb na nb ta tb (cmpL ta tb) = x := ⟨_, rfl⟩
  obtain ⟨y, hy⟩ : ∃ y, cmpT kb kc sb sc nb nc tb tc (cmpL tb tc) = y := ⟨_, rfl⟩
  obtain ⟨z, hz⟩ : ∃ z, cmpT ka kc sa sc na nc ta tc (cmpL ta tc) = z := ⟨_, rfl⟩
  have hrx : -1 ≤ x ∧ x ≤ 1 := by rw [← hx]; exact cmpT_range (cmpL_range _ _)
  have htri : Tri x y z := by rw [← hx, ← hy, ← hz]; exact cmpT_tri fun h h' => cmpL_tri _ _ _ h h'
  have hneg : cmpT kb ka sb sa nb na tb ta (cmpL tb ta) = -x := by rw [← hx]; exact cmpT_neg (cmpL_neg _ _)
  have hkk : ka < kb → x = -1 := fun h => by
    rw [← hx, cmpT, ci, if_pos h]
    rfl
  have hxb : (x == 0) = (headAlike ka kb sa sb na nb && alike ta tb) := by
    rw [Bool.eq_iff_iff, ← cmpT_zero, hx, beq_iff_eq]
  obtain ⟨bs, hbs⟩ : ∃ bs, (headAlike ka kb sa sb na nb && alike ta tb) = bs := ⟨_, rfl⟩
  rw [hbs] at hxb
  have HX := Lib.hid hx
  have HY := Lib.hid hy
  have HZ := Lib.hid hz
  have HN := Lib.hid hneg
  have HB := Lib.hid hbs
  have HXB := Lib.hid hxb
  have TRI := Lib.hid htri
  have KK := Lib.hid hkk
  clear hx hy hz htri hneg hkk hxb hbs
  go_wp2_with fail
  refine region_by_facts (fun W => TT w w.heap.size ka sa na pa ca ta W ∧ TT w (w.heap.size + 1) kb sb nb pb cb' tb W ∧ TT w (w.heap.size + 1 + 1) kc sc nc pc cc tc W)
    [fun v _ => v = tv ka sa na pa ta.len ca, fun v _ => v = tv kb sb nb pb tb.len cb', fun v _ => v = .int .i64 x, fun v _ => v = tv kb sb nb pb tb.len cb', fun v _ => v = tv kc sc nc pc tc.len cc, fun v _ => v = .int .i64 y, fun v _ => v = tv ka sa na pa ta.len ca, fun v _ => v = tv kc sc nc pc tc.len cc, fun v _ => v = .int .i64 z, fun v _ => v = .int .i64 x, fun v _ => v = .int .i64 y, fun v _ => v = .int .i64 z]
    ⟨.eq _, .eq _, .eq _, .eq _, .eq _, .eq _, .eq _, .eq _, .eq _, .eq _, .eq _, .eq _, trivial⟩
    (by kernel_rfl) (by kernel_rfl) (by kernel_rfl) ?h0 ?steps ?done
  case h0 => exact ⟨TA.drewN 1, TB.drewN 1, TC.drewN 1⟩
  case steps =>
    refine ⟨?_, ?_, ?_, ?_, ?_, ?_, ?_, ?_, ?_, ?_, ?_, ?_, trivial⟩
    · intro f W hI hd K hK
      simp only [frameOf, Act.put, List.setIfInBounds_toArray, List.set_cons_zero, List.set_cons_succ]
      have k0 := hI.1.c0
      have k1 := hI.1.c1
      have k2 := hI.1.c2
      have k3 := hI.1.c3
      go_simp
      refine hK.out (tv ka sa na pa ta.len ca) _ W ?_ hI (Below.refl _ _) rfl
      simp only [tv, frameOf, Act.put, List.setIfInBounds_toArray, List.set_cons_zero, List.set_cons_succ]
    · intro f W hI hd K hK
      simp only [frameOf, Act.put, List.setIfInBounds_toArray, List.set_cons_zero, List.set_cons_succ]
      have k0 := hI.2.1.c0
      have k1 := hI.2.1.c1
      have k2 := hI.2.1.c2
      have k3 := hI.2.1.c3
      go_simp
      refine hK.out (tv kb sb nb pb tb.len cb') _ W ?_ hI (Below.refl _ _) rfl
      simp only [tv, frameOf, Act.put, List.setIfInBounds_toArray, List.set_cons_zero, List.set_cons_succ]
    · intro f W hI hd K hK
      simp only [frameOf, Act.put, List.setIfInBounds_toArray, List.set_cons_zero, List.set_cons_succ]
      have h0 : f 0 = tv ka sa na pa ta.len ca := hd 0 (by kernel_rfl)
      unfold tv at h0
      have h1 : f 1 = tv kb sb nb pb tb.len cb' := hd 1 (by kernel_rfl)
      unfold tv at h1
      rw [h0, h1]
      go_simp
      refine (compare_any (by omega) OKA.out.2.2.2.2.2.1 OKB.out.2.2.2.2.2.1 hI.1.tat hI.2.1.tat).mono ?_
      rintro e w' ⟨rfl, hB⟩
      rw [HX.out]
      refine hK.out (.int .i64 x) _ _ ?_ ⟨hI.1.below hB, hI.2.1.below hB, hI.2.2.below hB⟩ hB rfl
      simp only [frameOf, Act.put, List.setIfInBounds_toArray, List.set_cons_zero, List.set_cons_succ, Nat.zero_add, Nat.reduceAdd, h0, h1]
    · intro f W hI hd K hK
      simp only [frameOf, Act.put, List.setIfInBounds_toArray, List.set_cons_zero, List.set_cons_succ]
      have k0 := hI.2.1.c0
      have k1 := hI.2.1.c1
      have k2 := hI.2.1.c2
      have k3 := hI.2.1.c3
      go_simp
      refine hK.out (tv kb sb nb pb tb.len cb') _ W ?_ hI (Below.refl _ _) rfl
      simp only [tv, frameOf, Act.put, List.setIfInBounds_toArray, List.set_cons_zero, List.set_cons_succ]
    · intro f W hI hd K hK
      simp only [frameOf, Act.put, List.setIfInBounds_toArray, List.set_cons_zero, List.set_cons_succ]
      have k0 := hI.2.2.c0
      have k1 := hI.2.2.c1
      have k2 := hI.2.2.c2
      have k3 := hI.2.2.c3
      go_simp
      refine hK.out (tv kc sc nc pc tc.len cc) _ W ?_ hI (Below.refl _ _) rfl
      simp only [tv, frameOf, Act.put, List.setIfInBounds_toArray, List.set_cons_zero, List.set_cons_succ]
    · intro f W hI hd K hK
      simp only [frameOf, Act.put, List.setIfInBounds_toArray, List.set_cons_zero, List.set_cons_succ]
      have h3 : f 3 = tv kb sb nb pb tb.len cb' := hd 3 (by kernel_rfl)
      unfold tv at h3
      have h4 : f 4 = tv kc sc nc pc tc.len cc := hd 4 (by kernel_rfl)
      unfold tv at h4
      rw [h3, h4]
      go_simp
      refine (compare_any (by omega) OKB.out.2.2.2.2.2.1 OKC.out.2.2.2.2.2.1 hI.2.1.tat hI.2.2.tat).mono ?_
      rintro e w' ⟨rfl, hB⟩
      rw [HY.out]
      refine hK.out (.int .i64 y) _ _ ?_ ⟨hI.1.below hB, hI.2.1.below hB, hI.2.2.below hB⟩ hB rfl
      simp only [frameOf, Act.put, List.setIfInBounds_toArray, List.set_cons_zero, List.set_cons_succ, Nat.zero_add, Nat.reduceAdd, h3, h4]
    · intro f W hI hd K hK
      simp only [frameOf, Act.put, List.setIfInBounds_toArray, List.set_cons_zero, List.set_cons_succ]
      have k0 := hI.1.c0
      have k1 := hI.1.c1
      have k2 := hI.1.c2
      have k3 := hI.1.c3
      go_simp
      refine hK.out (tv ka sa na pa ta.len ca) _ W ?_ hI (Below.refl _ _) rfl
      simp only [tv, frameOf, Act.put, List.setIfInBounds_toArray, List.set_cons_zero, List.set_cons_succ]
    · intro f W hI hd K hK
      simp only [frameOf, Act.put, List.setIfInBounds_toArray, List.set_cons_zero, List.set_cons_succ]
      have k0 := hI.2.2.c0
      have k1 := hI.2.2.c1
      have k2 := hI.2.2.c2
      have k3 := hI.2.2.c3
      go_simp
      refine hK.out (tv kc sc nc pc tc.len cc) _ W ?_ hI (Below.refl _ _) rfl
      simp only [tv, frameOf, Act.put, List.setIfInBounds_toArray, List.set_cons_zero, List.set_cons_succ]
    · intro f W hI hd K hK
      simp only [frameOf, Act.put, List.setIfInBounds_toArray, List.set_cons_zero, List.set_cons_succ]
      have h6 : f 6 = tv ka sa na pa ta.len ca := hd 6 (by kernel_rfl)
      unfold tv at h6
      have h7 : f 7 = tv kc sc nc pc tc.len cc := hd 7 (by kernel_rfl)
      unfold tv at h7
      rw [h6, h7]
      go_simp
      refine (compare_any (by omega) OKA.out.2.2.2.2.2.1 OKC.out.2.2.2.2.2.1 hI.1.tat hI.2.2.tat).mono ?_
      rintro e w' ⟨rfl, hB⟩
      rw [HZ.out]
      refine hK.out (.int .i64 z) _ _ ?_ ⟨hI.1.below hB, hI.2.1.below hB, hI.2.2.below hB⟩ hB rfl
      simp only [frameOf, Act.put, List.setIfInBounds_toArray, List.set_cons_zero, List.set_cons_succ, Nat.zero_add, Nat.reduceAdd, h6, h7]
    · intro f W hI hd K hK
      simp only [frameOf, Act.put, List.setIfInBounds_toArray, List.set_cons_zero, List.set_cons_succ]
      have h2 : f 2 = .int .i64 x := hd 2 (by kernel_rfl)
      rw [h2]
      go_simp
      refine hK.out (.int .i64 x) _ W ?_ hI (Below.refl _ _) rfl
      simp only [frameOf, Act.put, List.setIfInBounds_toArray, List.set_cons_zero, List.set_cons_succ, Nat.zero_add, Nat.reduceAdd, h2]
    · intro f W hI hd K hK
      simp only [frameOf, Act.put, List.setIfInBounds_toArray, List.set_cons_zero, List.set_cons_succ]
      have h5 : f 5 = .int .i64 y := hd 5 (by kernel_rfl)
      rw [h5]
      go_simp
      refine hK.out (.int .i64 y) _ W ?_ hI (Below.refl _ _) rfl
      simp only [frameOf, Act.put, List.setIfInBounds_toArray, List.set_cons_zero, List.set_cons_succ, Nat.zero_add, Nat.reduceAdd, h5]
    · intro f W hI hd K hK
      simp only [frameOf, Act.put, List.setIfInBounds_toArray, List.set_cons_zero, List.set_cons_succ]
      have h8 : f 8 = .int .i64 z := hd 8 (by kernel_rfl)
      rw [h8]
      go_simp
      refine hK.out (.int .i64 z) _ W ?_ hI (Below.refl _ _) rfl
      simp only [frameOf, Act.put, List.setIfInBounds_toArray, List.set_cons_zero, List.set_cons_succ, Nat.zero_add, Nat.reduceAdd, h8]
  case done =>
    intro f W hI hF
    have h9 : f 9 = .int .i64 x := hF 9 (by decide)
    have h10 : f 10 = .int .i64 y := hF 10 (by decide)
    have h11 : f 11 = .int .i64 z := hF 11 (by decide)
    simp only [frameOf, Act.put, List.setIfInBounds_toArray, List.set_cons_zero, List.set_cons_succ]
    rw [h9, h10, h11]
    clear hF h9 h10 h11 TA TB TC
    obtain ⟨TA, TB, TC⟩ := hI
    have k0 := TA.c0
    have k1 := TA.c1
    have k2 := TA.c2
    have k3 := TA.c3
    have m0 := TB.c0
    have m1 := TB.c1
    have m2 := TB.c2
    have m3 := TB.c3
    go_wp2_with fail
    refine (compare_any (by omega) OKB.out.2.2.2.2.2.1 OKA.out.2.2.2.2.2.1 TB.tat TA.tat).mono ?_
    rintro e w6 ⟨rfl, hB⟩
    rw [HN.out]
    replace TA := TA.below hB
    replace TB := TB.below hB
    clear hB k0 k1 k2 k3 m0 m1 m2 m3
    have k0 := TA.c0
    have k1 := TA.c1
    have k2 := TA.c2
    have k3 := TA.c3
    have m0 := TB.c0
    have m1 := TB.c1
    have m2 := TB.c2
    have m3 := TB.c3
    have hnn : wrap64 (-(-x)) = x := by rw [Int.neg_neg]; exact wrap_small (by omega)
    have hxx : (x != x) = false := by simp
    go_wp2_with fail
    have hlA : ta.len ≤ 9223372036854775807 := by have := Ts.len_size ta; omega
    have hlB : tb.len ≤ 9223372036854775807 := by have := Ts.len_size tb; omega
    refine (tsame_any _ ta tb (Nat.lt_succ_self _) OKA.out.2.2.2.2.2.1 OKB.out.2.2.2.2.2.1 hlA hlB ka kb sa sb na nb w6 pa pb ca cb' TA.tat TB.tat).mono ?_
    rintro e w7 ⟨rfl, hB⟩
    rw [HB.out]
    replace TA := TA.below hB
    replace TB := TB.below hB
    clear hB k0 k1 k2 k3 m0 m1 m2 m3 hnn hxx
    have k0 := TA.c0
    have m0 := TB.c0
    have hz1 := TRI.out.1
    have hz2 := TRI.out.2
    have hbs := HXB.out
    have hkk := KK.out
    clear TC
    obtain h | h | h | h | h | h | h : (x = -1 ∧ y ≤ 0) ∨ (x = -1 ∧ 0 < y) ∨ (x = 1 ∧ y < 0) ∨ (x = 1 ∧ 0 ≤ y) ∨ (x = 0 ∧ y < 0) ∨ (x = 0 ∧ y = 0) ∨ (x = 0 ∧ 0 < y) := by omega
    all_goals
      obtain ⟨h1, h2⟩ := h
      have hbs' : bs = decide (x = 0) := by rw [← hbs]; rfl
      have hz3 : (x ≤ 0 ∧ y ≤ 0 → z ≤ 0) ∧ (0 ≤ x ∧ 0 ≤ y → 0 ≤ z) := ⟨fun h => (hz1 h.1 h.2).1, fun h => (hz2 h.1 h.2).1⟩
      have hk2 : kb ≤ ka ∨ x = -1 := by omega
      clear hz1 hz2 hbs hkk
      subst h1
      simp only [Int.reduceEq, decide_true, decide_false] at hbs'
      subst hbs'
      by_cases hk : kb ≤ ka
      all_goals try (exfalso; omega)
      all_goals
        go_wp2_with fail
        refine (wakes2_any _).mono ?_
        rintro e w9 ⟨rfl, hB⟩
        replace TA := TA.below hB
        go_wp2
        go_ret
        exact ⟨rfl, TA.B⟩

end Go.Proofs.Ytlhclblekpngnaa
