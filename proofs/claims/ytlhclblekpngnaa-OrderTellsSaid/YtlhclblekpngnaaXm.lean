/-
  The law OrderTells, walked. (Written by gen_xm.py.)
-/
import Derived.Test.YtlhclblekpngnaaXi
import Derived.Test.YtlhclblekpngnaaXl
import Derived.Test.YtlhclblekpngnaaUa
namespace Go.Proofs.Ytlhclblekpngnaa
open Go.RowKit

theorem good_shape {k : Int} {s : ByteArray} {n : Int} {ts : Ts} (h : goodB 64 k s n ts = true) : (shapeL ts && headB k s n ts.len) = true := by
  rw [goodB, Bool.and_eq_true] at h
  exact h.2

set_option maxRecDepth 100000 in
set_option maxHeartbeats 20000000 in
theorem orderTells_true (w : World) (ka : Int) (sa : ByteArray) (na : Int) (pa : Option Addr) (ca : Nat) (ta : Ts) (kb : Int) (sb : ByteArray) (nb : Int) (pb : Option Addr) (cb' : Nat) (tb : Ts)
    (hoka : Ts.ok (.cons ka sa na pa ca ta .nil)) (hata : Ts.At w pa ta) (hokb : Ts.ok (.cons kb sb nb pb cb' tb .nil)) (hatb : Ts.At w pb tb) :
    Calls Try.prog 7 #[tv ka sa na pa ta.len ca, tv kb sb nb pb tb.len cb'] w fun e w' => e = .returned (.bool true) ∧ Below w.heap.size w w' := by
  unfold tv
  have OKA := Lib.hid hoka
  have OKB := Lib.hid hokb
  have ATA := Lib.hid hata
  have ATB := Lib.hid hatb
  have hsa := hoka.2.1
  have hsb := hokb.2.1
  have ok2 : Ts.ok (.cons ka sa na pa ca ta (.cons kb sb nb pb cb' tb .nil)) := ⟨hoka.1, hoka.2.1, hoka.2.2.1, hoka.2.2.2.1, hoka.2.2.2.2.1, hoka.2.2.2.2.2.1, hokb⟩
  have OK2 := Lib.hid ok2
  clear hoka hokb hata hatb ok2
  go_enter Try.func7, Try.ntmps7
  go_wp2_with fail
  obtain ⟨W0, hW0, hs0, hA0, hTa, hTb⟩ := box2 w #[Value.int IntKind.u8 ka, Value.string sa, Value.int IntKind.i64 na, Value.slice pa ta.len ca] #[Value.int IntKind.u8 kb, Value.string sb, Value.int IntKind.i64 nb, Value.slice pb tb.len cb'] 24 24
  rw [← hW0]
  have Z0 := Lib.hid hW0
  clear hW0
  have TA : TT w w.heap.size ka sa na pa ca ta W0 := ⟨hA0, by omega, hTa 0 _ rfl, hTa 1 _ rfl, hTa 2 _ rfl, hTa 3 _ rfl, ATA.out.below hA0⟩
  have TB : TT w (w.heap.size + 1) kb sb nb pb cb' tb W0 := ⟨hA0, by omega, hTb 0 _ rfl, hTb 1 _ rfl, hTb 2 _ rfl, hTb 3 _ rfl, ATB.out.below hA0⟩
  obtain ⟨W2, hW2, hs2, hA2, hc2⟩ := box1 W0 #[Value.int IntKind.u8 ka, Value.string sa, Value.int IntKind.i64 na, Value.slice pa ta.len ca, Value.int IntKind.u8 kb, Value.string sb, Value.int IntKind.i64 nb, Value.slice pb tb.len cb'] 24
  rw [← hW2]
  have Z2 := Lib.hid hW2
  clear hW2 hTa hTb hA0
  replace TA := TA.below hA2
  replace TB := TB.below hA2
  rw [show w.heap.size + 1 + 1 = W0.heap.size by omega]
  have at2 : Ts.At W2 (some ⟨W0.heap.size, 0, none⟩) (.cons ka sa na pa ca ta (.cons kb sb nb pb cb' tb .nil)) := lies_two rfl hc2 TA.tat TB.tat
  have L1 := Lib.hid at2
  clear hc2 hA2 at2
  by_cases hg : decide (1000 < manyP (.cons ka sa na pa ca ta (.cons kb sb nb pb cb' tb .nil)) 0) = true
  · refine (great_is (.cons ka sa na pa ca ta (.cons kb sb nb pb cb' tb .nil)) OK2.out true hg W2 _ 2 L1.out (by simp [Ts.len])).mono ?_
    rintro e w2 ⟨rfl, hB⟩
    replace TA := TA.below hB
    clear hg hB
    go_wp2_with fail
    refine (wakes2_any _).mono ?_
    rintro e w9 ⟨rfl, hB⟩
    replace TA := TA.below hB
    go_wp2
    go_ret
    exact ⟨rfl, TA.B⟩
  rw [Bool.not_eq_true] at hg
  have hsz0 := small_of_many hg
  simp only [Ts.size] at hsz0
  refine (great_is (.cons ka sa na pa ca ta (.cons kb sb nb pb cb' tb .nil)) OK2.out false hg W2 _ 2 L1.out (by simp [Ts.len])).mono ?_
  rintro e w2 ⟨rfl, hB⟩
  replace TA := TA.below hB
  replace TB := TB.below hB
  clear hg hB L1
  have k0 := TA.c0
  have k1 := TA.c1
  have k2 := TA.c2
  have k3 := TA.c3
  go_wp2_with fail
  refine (rGood_any ta (by omega) OKA.out.2.2.2.2.2.1 ka sa na w2 pa ca hsa TA.tat).mono ?_
  rintro e w3 ⟨rfl, hB⟩
  replace TA := TA.below hB
  replace TB := TB.below hB
  clear hB k0 k1 k2 k3
  by_cases hgd : goodB 64 ka sa na ta = false
  · rw [hgd]
    clear hgd
    go_wp2_with fail
    refine (wakes2_any _).mono ?_
    rintro e w9 ⟨rfl, hB⟩
    replace TA := TA.below hB
    go_wp2
    go_ret
    exact ⟨rfl, TA.B⟩
  rw [Bool.not_eq_false] at hgd
  rw [hgd]
  have GA := Lib.hid (good_shape hgd)
  clear hgd
  have k0 := TB.c0
  have k1 := TB.c1
  have k2 := TB.c2
  have k3 := TB.c3
  go_wp2_with fail
  refine (rGood_any tb (by omega) OKB.out.2.2.2.2.2.1 kb sb nb w3 pb cb' hsb TB.tat).mono ?_
  rintro e w4 ⟨rfl, hB⟩
  replace TA := TA.below hB
  replace TB := TB.below hB
  clear hB k0 k1 k2 k3
  by_cases hgd : goodB 64 kb sb nb tb = false
  · rw [hgd]
    clear hgd
    go_wp2_with fail
    refine (wakes2_any _).mono ?_
    rintro e w9 ⟨rfl, hB⟩
    replace TA := TA.below hB
    go_wp2
    go_ret
    exact ⟨rfl, TA.B⟩
  rw [Bool.not_eq_false] at hgd
  rw [hgd]
  have GB := Lib.hid (good_shape hgd)
  clear hgd
  obtain ⟨x, hx⟩ : ∃ x, cmpT ka kb sa sb na nb ta tb (cmpL ta tb) = x := ⟨_, rfl⟩
  have HX := Lib.hid hx
  clear hx
  go_wp2_with fail
  refine region_by_facts (fun W => TT w w.heap.size ka sa na pa ca ta W ∧ TT w (w.heap.size + 1) kb sb nb pb cb' tb W)
    [fun v _ => v = tv ka sa na pa ta.len ca, fun v _ => v = tv kb sb nb pb tb.len cb', fun v _ => v = .int .i64 x, fun v _ => v = tv ka sa na pa ta.len ca, fun v _ => v = tv kb sb nb pb tb.len cb', fun v _ => v = .int .i64 x, fun v _ => v = .bool true, fun v _ => v = .bool true, fun v _ => v = tv ka sa na pa ta.len ca, fun v _ => v = tv ka sa na pa ta.len ca, fun v _ => v = .int .i64 0, fun v _ => v = .bool true, fun v _ => v = .bool true, fun v _ => v = .bool true, fun v _ => v = .bool true, fun v _ => v = .bool true, fun v _ => v = .bool true]
    ⟨.eq _, .eq _, .eq _, .eq _, .eq _, .eq _, .eq _, .eq _, .eq _, .eq _, .eq _, .eq _, .eq _, .eq _, .eq _, .eq _, .eq _, trivial⟩
    (by kernel_rfl) (by kernel_rfl) (by kernel_rfl) ?h0 ?steps ?done
  case h0 => exact ⟨TA.drewN 1, TB.drewN 1⟩
  case steps =>
    refine ⟨?_, ?_, ?_, ?_, ?_, ?_, ?_, ?_, ?_, ?_, ?_, ?_, ?_, ?_, ?_, ?_, ?_, trivial⟩
    · intro f W hI hd K hK
      simp only [frameOf, Act.put, List.setIfInBounds_toArray, List.set_cons_zero, List.set_cons_succ]
      have k0 := hI.1.c0
      have k1 := hI.1.c1
      have k2 := hI.1.c2
      have k3 := hI.1.c3
      go_simp
      refine hK.out (tv ka sa na pa ta.len ca) _ W ?_ hI (Below.refl _ _) rfl
      simp only [tv, frameOf, Act.put, List.setIfInBounds_toArray, List.set_cons_zero, List.set_cons_succ]
    · intro f W hI hd K hK
      simp only [frameOf, Act.put, List.setIfInBounds_toArray, List.set_cons_zero, List.set_cons_succ]
      have k0 := hI.2.c0
      have k1 := hI.2.c1
      have k2 := hI.2.c2
      have k3 := hI.2.c3
      go_simp
      refine hK.out (tv kb sb nb pb tb.len cb') _ W ?_ hI (Below.refl _ _) rfl
      simp only [tv, frameOf, Act.put, List.setIfInBounds_toArray, List.set_cons_zero, List.set_cons_succ]
    · intro f W hI hd K hK
      simp only [frameOf, Act.put, List.setIfInBounds_toArray, List.set_cons_zero, List.set_cons_succ]
      have h0 : f 0 = tv ka sa na pa ta.len ca := hd 0 (by kernel_rfl)
      unfold tv at h0
      have h1 : f 1 = tv kb sb nb pb tb.len cb' := hd 1 (by kernel_rfl)
      unfold tv at h1
      rw [h0, h1]
      go_simp
      refine (compare_any (by omega) OKA.out.2.2.2.2.2.1 OKB.out.2.2.2.2.2.1 hI.1.tat hI.2.tat).mono ?_
      rintro e w' ⟨rfl, hB⟩
      rw [HX.out]
      refine hK.out (.int .i64 x) _ _ ?_ ⟨hI.1.below hB, hI.2.below hB⟩ hB rfl
      simp only [frameOf, Act.put, List.setIfInBounds_toArray, List.set_cons_zero, List.set_cons_succ, Nat.zero_add, Nat.reduceAdd, h0, h1]
    · intro f W hI hd K hK
      simp only [frameOf, Act.put, List.setIfInBounds_toArray, List.set_cons_zero, List.set_cons_succ]
      have k0 := hI.1.c0
      have k1 := hI.1.c1
      have k2 := hI.1.c2
      have k3 := hI.1.c3
      go_simp
      refine hK.out (tv ka sa na pa ta.len ca) _ W ?_ hI (Below.refl _ _) rfl
      simp only [tv, frameOf, Act.put, List.setIfInBounds_toArray, List.set_cons_zero, List.set_cons_succ]
    · intro f W hI hd K hK
      simp only [frameOf, Act.put, List.setIfInBounds_toArray, List.set_cons_zero, List.set_cons_succ]
      have k0 := hI.2.c0
      have k1 := hI.2.c1
      have k2 := hI.2.c2
      have k3 := hI.2.c3
      go_simp
      refine hK.out (tv kb sb nb pb tb.len cb') _ W ?_ hI (Below.refl _ _) rfl
      simp only [tv, frameOf, Act.put, List.setIfInBounds_toArray, List.set_cons_zero, List.set_cons_succ]
    · intro f W hI hd K hK
      simp only [frameOf, Act.put, List.setIfInBounds_toArray, List.set_cons_zero, List.set_cons_succ]
      have h3 : f 3 = tv ka sa na pa ta.len ca := hd 3 (by kernel_rfl)
      unfold tv at h3
      have h4 : f 4 = tv kb sb nb pb tb.len cb' := hd 4 (by kernel_rfl)
      unfold tv at h4
      rw [h3, h4]
      go_simp
      refine (rcompare_any _ ta (Nat.lt_succ_self _) (by omega) tb ka kb sa sb na nb W pa pb ca cb' OKA.out OKB.out GA.out GB.out hI.1.tat hI.2.tat).mono ?_
      rintro e w' ⟨rfl, hB⟩
      rw [HX.out]
      refine hK.out (.int .i64 x) _ _ ?_ ⟨hI.1.below hB, hI.2.below hB⟩ hB rfl
      simp only [frameOf, Act.put, List.setIfInBounds_toArray, List.set_cons_zero, List.set_cons_succ, Nat.zero_add, Nat.reduceAdd, h3, h4]
    · intro f W hI hd K hK
      simp only [frameOf, Act.put, List.setIfInBounds_toArray, List.set_cons_zero, List.set_cons_succ]
      have h2 : f 2 = .int .i64 x := hd 2 (by kernel_rfl)
      have h5 : f 5 = .int .i64 x := hd 5 (by kernel_rfl)
      rw [h2, h5]
      go_simp
      refine hK.out (.bool true) _ W ?_ hI (Below.refl _ _) rfl
      simp only [frameOf, Act.put, List.setIfInBounds_toArray, List.set_cons_zero, List.set_cons_succ, Nat.zero_add, Nat.reduceAdd, h2, h5]
    · intro f W hI hd K hK
      simp only [frameOf, Act.put, List.setIfInBounds_toArray, List.set_cons_zero, List.set_cons_succ]
      have h6 : f 6 = .bool true := hd 6 (by kernel_rfl)
      rw [h6]
      go_simp
      refine hK.out (.bool true) _ W ?_ hI (Below.refl _ _) rfl
      simp only [frameOf, Act.put, List.setIfInBounds_toArray, List.set_cons_zero, List.set_cons_succ, Nat.zero_add, Nat.reduceAdd, h6]
    · intro f W hI hd K hK
      simp only [frameOf, Act.put, List.setIfInBounds_toArray, List.set_cons_zero, List.set_cons_succ]
      have h7 : f 7 = .bool true := hd 7 (by kernel_rfl)
      have k0 := hI.1.c0
      have k1 := hI.1.c1
      have k2 := hI.1.c2
      have k3 := hI.1.c3
      rw [h7]
      go_simp
      refine hK.out (tv ka sa na pa ta.len ca) _ W ?_ hI (Below.refl _ _) rfl
      simp only [tv, frameOf, Act.put, List.setIfInBounds_toArray, List.set_cons_zero, List.set_cons_succ, Nat.zero_add, Nat.reduceAdd, h7]
    · intro f W hI hd K hK
      simp only [frameOf, Act.put, List.setIfInBounds_toArray, List.set_cons_zero, List.set_cons_succ]
      have h7 : f 7 = .bool true := hd 7 (by kernel_rfl)
      have k0 := hI.1.c0
      have k1 := hI.1.c1
      have k2 := hI.1.c2
      have k3 := hI.1.c3
      rw [h7]
      go_simp
      refine hK.out (tv ka sa na pa ta.len ca) _ W ?_ hI (Below.refl _ _) rfl
      simp only [tv, frameOf, Act.put, List.setIfInBounds_toArray, List.set_cons_zero, List.set_cons_succ, Nat.zero_add, Nat.reduceAdd, h7]
    · intro f W hI hd K hK
      simp only [frameOf, Act.put, List.setIfInBounds_toArray, List.set_cons_zero, List.set_cons_succ]
      have h7 : f 7 = .bool true := hd 7 (by kernel_rfl)
      have h8 : f 8 = tv ka sa na pa ta.len ca := hd 8 (by kernel_rfl)
      unfold tv at h8
      have h9 : f 9 = tv ka sa na pa ta.len ca := hd 9 (by kernel_rfl)
      unfold tv at h9
      rw [h7, h8, h9]
      go_simp
      refine (compare_any (by omega) OKA.out.2.2.2.2.2.1 OKA.out.2.2.2.2.2.1 hI.1.tat hI.1.tat).mono ?_
      rintro e w' ⟨rfl, hB⟩
      rw [cmpT_refl]
      refine hK.out (.int .i64 0) _ _ ?_ ⟨hI.1.below hB, hI.2.below hB⟩ hB rfl
      simp only [frameOf, Act.put, List.setIfInBounds_toArray, List.set_cons_zero, List.set_cons_succ, Nat.zero_add, Nat.reduceAdd, h7, h8, h9]
    · intro f W hI hd K hK
      simp only [frameOf, Act.put, List.setIfInBounds_toArray, List.set_cons_zero, List.set_cons_succ]
      have h7 : f 7 = .bool true := hd 7 (by kernel_rfl)
      have h10 : f 10 = .int .i64 0 := hd 10 (by kernel_rfl)
      rw [h7, h10]
      go_simp
      refine hK.out (.bool true) _ W ?_ hI (Below.refl _ _) rfl
      simp only [frameOf, Act.put, List.setIfInBounds_toArray, List.set_cons_zero, List.set_cons_succ, Nat.zero_add, Nat.reduceAdd, h7, h10]
    · intro f W hI hd K hK
      simp only [frameOf, Act.put, List.setIfInBounds_toArray, List.set_cons_zero, List.set_cons_succ]
      have h7 : f 7 = .bool true := hd 7 (by kernel_rfl)
      have h11 : f 11 = .bool true := hd 11 (by kernel_rfl)
      rw [h7, h11]
      go_simp
      refine hK.out (.bool true) _ W ?_ hI (Below.refl _ _) rfl
      simp only [frameOf, Act.put, List.setIfInBounds_toArray, List.set_cons_zero, List.set_cons_succ, Nat.zero_add, Nat.reduceAdd, h7, h11]
    · intro f W hI hd K hK
      simp only [frameOf, Act.put, List.setIfInBounds_toArray, List.set_cons_zero, List.set_cons_succ]
      have h12 : f 12 = .bool true := hd 12 (by kernel_rfl)
      rw [h12]
      go_simp
      refine hK.out (.bool true) _ W ?_ hI (Below.refl _ _) rfl
      simp only [frameOf, Act.put, List.setIfInBounds_toArray, List.set_cons_zero, List.set_cons_succ, Nat.zero_add, Nat.reduceAdd, h12]
    · intro f W hI hd K hK
      simp only [frameOf, Act.put, List.setIfInBounds_toArray, List.set_cons_zero, List.set_cons_succ]
      have h13 : f 13 = .bool true := hd 13 (by kernel_rfl)
      rw [h13]
      go_simp
      refine (wakes2_any _).mono ?_
      rintro e w' ⟨rfl, hB⟩
      refine hK.out (.bool true) _ _ ?_ ⟨hI.1.below hB, hI.2.below hB⟩ hB rfl
      simp only [frameOf, Act.put, List.setIfInBounds_toArray, List.set_cons_zero, List.set_cons_succ, Nat.zero_add, Nat.reduceAdd, h13]
    · intro f W hI hd K hK
      simp only [frameOf, Act.put, List.setIfInBounds_toArray, List.set_cons_zero, List.set_cons_succ]
      have h13 : f 13 = .bool true := hd 13 (by kernel_rfl)
      have h14 : f 14 = .bool true := hd 14 (by kernel_rfl)
      rw [h13, h14]
      go_simp
      refine hK.out (.bool true) _ W ?_ hI (Below.refl _ _) rfl
      simp only [frameOf, Act.put, List.setIfInBounds_toArray, List.set_cons_zero, List.set_cons_succ, Nat.zero_add, Nat.reduceAdd, h13, h14]
    · intro f W hI hd K hK
      simp only [frameOf, Act.put, List.setIfInBounds_toArray, List.set_cons_zero, List.set_cons_succ]
      have h15 : f 15 = .bool true := hd 15 (by kernel_rfl)
      rw [h15]
      go_simp
      refine hK.out (.bool true) _ W ?_ hI (Below.refl _ _) rfl
      simp only [frameOf, Act.put, List.setIfInBounds_toArray, List.set_cons_zero, List.set_cons_succ, Nat.zero_add, Nat.reduceAdd, h15]
  case done =>
    intro f W hI hF
    have h16 : f 16 = .bool true := hF 16 (by decide)
    simp only [frameOf, Act.put, List.setIfInBounds_toArray, List.set_cons_zero, List.set_cons_succ]
    rw [h16]
    clear hF h16 TA TB
    have BB := Lib.hid hI.1.B
    clear hI
    go_wp2
    go_ret
    exact ⟨rfl, BB.out⟩

end Go.Proofs.Ytlhclblekpngnaa
