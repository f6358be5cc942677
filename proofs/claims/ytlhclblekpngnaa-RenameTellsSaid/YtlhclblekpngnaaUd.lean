/-
  The law TermTells, walked. (Written by gen_ud.py.)
-/
import Derived.Test.YtlhclblekpngnaaUc
import Derived.Test.YtlhclblekpngnaaTw
namespace Go.Proofs.Ytlhclblekpngnaa
open Go.RowKit

theorem Ts.At.first {w : World} {p : Option Addr} {k : Int} {s : ByteArray} {n : Int} {q : Option Addr} {c : Nat} {t r : Ts} (h : Ts.At w p (.cons k s n q c t r)) : Ts.At w p (.cons k s n q c t .nil) := by
  obtain ⟨b, o, h1, h2, h3, h4, h5, h6, h7⟩ := h
  rcases h1 with h1 | h1
  · cases h1
  · exact ⟨b, o, .inr h1, h2, h3, h4, h5, h6, trivial⟩

theorem rvars_at (ts : Ts) (hbig : ts.size ≤ 900000) (hok : ts.ok) (w : World) (p : Option Addr) (c : Nat) (hat : Ts.At w p ts) :
    Calls Try.prog 24 #[.slice p ts.len c] w fun e w' => ∃ u, e = .returned u ∧ VarsOf (numsOf ((nodesOf ts).map Ts.mark)) u w' ∧ Below w.heap.size w w' := by
  refine (rvars_any _ ts (Nat.lt_succ_self _) hbig hok w p c hat).mono ?_
  rintro e w' ⟨v, rfl, hrow, hB⟩
  rw [rv_eq] at hrow
  obtain ⟨p, c, rfl, h1, h2⟩ := ints_of_row (zs := numsOf ((nodesOf ts).map Ts.mark)) hrow
  exact ⟨_, rfl, ⟨p, c, rfl, h1, h2⟩, hB⟩

set_option maxRecDepth 100000 in
set_option maxHeartbeats 20000000 in
theorem termTells_true (w : World) (ka : Int) (sa : ByteArray) (na : Int) (pa : Option Addr) (ca : Nat) (ta : Ts) (kb : Int) (sb : ByteArray) (nb : Int) (pb : Option Addr) (cb : Nat) (tb : Ts)
    (hoka : Ts.ok (.cons ka sa na pa ca ta .nil)) (hata : Ts.At w pa ta) (hokb : Ts.ok (.cons kb sb nb pb cb tb .nil)) (hatb : Ts.At w pb tb) :
    Calls Try.prog 3 #[tv ka sa na pa ta.len ca, tv kb sb nb pb tb.len cb] w fun e w' => e = .returned (.bool true) ∧ Below w.heap.size w w' := by
  unfold tv
  have OKA := Lib.hid hoka
  have OKB := Lib.hid hokb
  have ATA := Lib.hid hata
  have ATB := Lib.hid hatb
  have hok2 : Hid (Ts.ok (.cons ka sa na pa ca ta (.cons kb sb nb pb cb tb .nil))) := Lib.hid ⟨hoka.1, hoka.2.1, hoka.2.2.1, hoka.2.2.2.1, hoka.2.2.2.2.1, hoka.2.2.2.2.2.1, hokb⟩
  clear hoka hokb hata hatb
  go_enter Try.func3, Try.ntmps3
  go_wp2_with fail
  obtain ⟨W0, hW0, hs0, hA0, hTa, hTb⟩ := box2 w #[Value.int IntKind.u8 ka, Value.string sa, Value.int IntKind.i64 na, Value.slice pa ta.len ca] #[Value.int IntKind.u8 kb, Value.string sb, Value.int IntKind.i64 nb, Value.slice pb tb.len cb] 24 24
  rw [← hW0]
  have Z0 := Lib.hid hW0
  clear hW0
  have TA : TT w w.heap.size ka sa na pa ca ta W0 := ⟨hA0, by omega, hTa 0 _ rfl, hTa 1 _ rfl, hTa 2 _ rfl, hTa 3 _ rfl, ATA.out.below hA0⟩
  have TB : TT w (w.heap.size + 1) kb sb nb pb cb tb W0 := ⟨hA0, by omega, hTb 0 _ rfl, hTb 1 _ rfl, hTb 2 _ rfl, hTb 3 _ rfl, ATB.out.below hA0⟩
  obtain ⟨W1, hW1, hs1, hA1, hc1⟩ := box1 W0 #[Value.int IntKind.u8 ka, Value.string sa, Value.int IntKind.i64 na, Value.slice pa ta.len ca, Value.int IntKind.u8 kb, Value.string sb, Value.int IntKind.i64 nb, Value.slice pb tb.len cb] 24
  rw [← hW1]
  have Z1 := Lib.hid hW1
  clear hW1 hTa hTb hA0
  replace TA := TA.below hA1
  replace TB := TB.below hA1
  refine (great_any (.cons ka sa na pa ca ta (.cons kb sb nb pb cb tb .nil)) W1 _ 2 ((show w.heap.size + 1 + 1 = W0.heap.size by omega) ▸ lies_two rfl hc1 TA.tat TB.tat) hok2.out (by simp [Ts.len])).mono ?_
  rintro e w2 ⟨rfl, q, hq⟩
  replace TA := TA.below (W' := w2) (by rw [hq]; exact below_drewN (Below.refl _ _) q)
  replace TB := TB.below (W' := w2) (by rw [hq]; exact below_drewN (Below.refl _ _) q)
  clear hq hc1 hA1
  by_cases hg : decide (1000 < manyP (.cons ka sa na pa ca ta (.cons kb sb nb pb cb tb .nil)) 0) = true
  · rw [hg]
    clear hg
    go_wp2_with fail
    refine (wakes_any _).mono ?_
    rintro e w3 ⟨rfl, hB⟩
    replace TA := TA.below hB
    go_wp2
    go_ret
    exact ⟨rfl, TA.B⟩
  · rw [Bool.not_eq_true] at hg
    have hsz := many_two _ _ _ _ _ _ _ _ _ _ _ _ hg
    rw [hg]
    clear hg
    obtain ⟨xs, hxs⟩ : ∃ xs, xs = numsOf ((nodesOf (.cons ka sa na pa ca ta .nil)).map Ts.mark) := ⟨_, rfl⟩
    obtain ⟨zs, hzs⟩ : ∃ zs, zs = numsOf ((nodesOf (.cons ka sa na pa ca ta (.cons kb sb nb pb cb tb .nil))).map Ts.mark) := ⟨_, rfl⟩
    have XS := Lib.hid hxs
    have ZS0 := Lib.hid hzs
    have hla := Ts.len_size ta
    have hlb := Ts.len_size tb
    have hnz : zs.length ≤ 1000 := by
      rw [hzs]
      have h1 := numsOf_length ((nodesOf (.cons ka sa na pa ca ta (.cons kb sb nb pb cb tb .nil))).map Ts.mark)
      rw [List.length_map, nodesOf_length] at h1
      simp only [Ts.size] at h1
      omega
    obtain ⟨e0, he0⟩ : ∃ e0, (xs.length == 0) = e0 := ⟨_, rfl⟩
    have he1 : ((xs.length : Int) == 0) = e0 := by rw [← he0, Bool.eq_iff_iff]; simp
    have E5 : Hid (noVar (nodesOf (.cons ka sa na pa ca ta .nil)) = e0) := Lib.hid (by rw [noVar_marks, numsOf_nil, ← hxs, he0])
    have OKK : Hid ta.ok := Lib.hid OKA.out.2.2.2.2.2.1
    have OKL : Hid tb.ok := Lib.hid OKB.out.2.2.2.2.2.1
    have hka : 0 ≤ ka ∧ ka ≤ 255 := OKA.out.1
    have hsa := OKA.out.2.1
    have hna := OKA.out.2.2.1
    have hca := OKA.out.2.2.2.1
    have hpa := OKA.out.2.2.2.2.1
    obtain ⟨sA, hsA⟩ : ∃ sA : Int, sA = ((ta.size + 1 : Nat) : Int) := ⟨_, rfl⟩
    obtain ⟨dA, hdA⟩ : ∃ dA : Int, dA = ((depthL ta + 1 : Nat) : Int) := ⟨_, rfl⟩
    have SA := Lib.hid hsA
    have DA := Lib.hid hdA
    clear hxs hzs he0 hsA hdA
    have k0 := TA.c0
    have k1 := TA.c1
    have k2 := TA.c2
    have k3 := TA.c3
    have m0 := TB.c0
    have m1 := TB.c1
    have m2 := TB.c2
    have m3 := TB.c3
    go_wp2_with fail
    obtain ⟨W3, hW3, hs3, hA3, hc3⟩ := box1 w2 #[Value.int IntKind.u8 ka, Value.string sa, Value.int IntKind.i64 na, Value.slice pa ta.len ca, Value.int IntKind.u8 kb, Value.string sb, Value.int IntKind.i64 nb, Value.slice pb tb.len cb] 24
    rw [← hW3]
    have Z3 := Lib.hid hW3
    clear hW3 k0 k1 k2 k3 m0 m1 m2 m3
    replace TA := TA.below hA3
    replace TB := TB.below hA3
    have LL := lies_two rfl hc3 TA.tat TB.tat
    clear hc3 hA3
    obtain ⟨Lb, hLb⟩ : ∃ Lb, Lb = w2.heap.size := ⟨_, rfl⟩
    rw [← hLb] at LL ⊢
    clear hLb
    refine region_by_facts (fun W => TT w w.heap.size ka sa na pa ca ta W ∧ TT w (w.heap.size + 1) kb sb nb pb cb tb W ∧ Ts.At W (some ⟨Lb, 0, none⟩) (.cons ka sa na pa ca ta (.cons kb sb nb pb cb tb .nil)))
      [fun v _ => v = tv ka sa na pa ta.len ca, fun v _ => v = .bool (goodB 64 ka sa na ta), fun v _ => v = tv ka sa na pa ta.len ca, fun v _ => v = .bool (goodB 64 ka sa na ta), fun v _ => v = .bool true, fun v _ => v = .bool true, fun v _ => v = tv ka sa na pa ta.len ca, fun v _ => v = .int .i64 sA, fun v _ => v = tv ka sa na pa ta.len ca, fun v _ => v = .int .i64 sA, fun v _ => v = .bool true, fun v _ => v = .bool true, fun v _ => v = .bool true, fun v _ => v = tv ka sa na pa ta.len ca, fun v _ => v = .int .i64 dA, fun v _ => v = tv ka sa na pa ta.len ca, fun v _ => v = .int .i64 dA, fun v _ => v = .bool true, fun v _ => v = .bool true, fun v _ => v = .bool true, fun v _ => v = tv ka sa na pa ta.len ca, fun v _ => v = tv kb sb nb pb tb.len cb, ListOf (.cons ka sa na pa ca ta (.cons kb sb nb pb cb tb .nil)), VarsOf zs, fun v _ => v = .slice (some ⟨Lb, 0, none⟩) 2 2, VarsOf zs, fun v _ => v = .bool true, fun v _ => v = .bool true, fun v _ => v = .bool true, fun v _ => v = tv ka sa na pa ta.len ca, fun v _ => v = tv kb sb nb pb tb.len cb, fun v _ => v = .bool (headAlike ka kb sa sb na nb && alike ta tb), fun v _ => v = tv ka sa na pa ta.len ca, fun v _ => v = tv kb sb nb pb tb.len cb, fun v _ => v = .bool (headAlike ka kb sa sb na nb && alike ta tb), fun v _ => v = .bool true, fun v _ => v = .bool true, fun v _ => v = .bool true, fun v _ => v = tv ka sa na pa ta.len ca, fun v _ => v = tv ka sa na pa ta.len ca, fun v _ => v = .bool true, fun v _ => v = .bool true, fun v _ => v = .bool true, fun v _ => v = tv ka sa na pa ta.len ca, fun v _ => v = .bool e0, fun v _ => v = .slice (some ⟨Lb, 0, none⟩) 2 2, fun v _ => v = .slice (some ⟨Lb, 0, none⟩) 1 2, VarsOf xs, fun v _ => v = .int .i64 xs.length, fun v _ => v = .bool e0, fun v _ => v = .bool true, fun v _ => v = .bool true, fun v _ => v = .bool true, fun v _ => v = .bool true, fun v _ => v = .bool true, fun v _ => v = .bool true]
      ⟨.eq _, .eq _, .eq _, .eq _, .eq _, .eq _, .eq _, .eq _, .eq _, .eq _, .eq _, .eq _, .eq _, .eq _, .eq _, .eq _, .eq _, .eq _, .eq _, .eq _, .eq _, .eq _, fun _ _ _ h => h.below, fun _ _ _ h => h.below, .eq _, fun _ _ _ h => h.below, .eq _, .eq _, .eq _, .eq _, .eq _, .eq _, .eq _, .eq _, .eq _, .eq _, .eq _, .eq _, .eq _, .eq _, .eq _, .eq _, .eq _, .eq _, .eq _, .eq _, .eq _, fun _ _ _ h => h.below, .eq _, .eq _, .eq _, .eq _, .eq _, .eq _, .eq _, .eq _, trivial⟩
      (by kernel_rfl) (by kernel_rfl) (by kernel_rfl) ?h0 ?steps ?done
    case h0 => exact ⟨TA.drewN 1, TB.drewN 1, LL.below (below_drewN (Below.refl _ _) 1)⟩
    case steps =>
      refine ⟨?_, ?_, ?_, ?_, ?_, ?_, ?_, ?_, ?_, ?_, ?_, ?_, ?_, ?_, ?_, ?_, ?_, ?_, ?_, ?_, ?_, ?_, ?_, ?_, ?_, ?_, ?_, ?_, ?_, ?_, ?_, ?_, ?_, ?_, ?_, ?_, ?_, ?_, ?_, ?_, ?_, ?_, ?_, ?_, ?_, ?_, ?_, ?_, ?_, ?_, ?_, ?_, ?_, ?_, ?_, ?_, trivial⟩
      · intro f W hI hd K hK
        simp only [frameOf, Act.put, List.setIfInBounds_toArray, List.set_cons_zero, List.set_cons_succ]
        have k0 := TT.c0 hI.1
        have k1 := TT.c1 hI.1
        have k2 := TT.c2 hI.1
        have k3 := TT.c3 hI.1
        go_simp
        refine hK.out (tv ka sa na pa ta.len ca) _ W ?_ hI (Below.refl _ _) rfl
        simp only [tv, frameOf, Act.put, List.setIfInBounds_toArray, List.set_cons_zero, List.set_cons_succ]
      · intro f W hI hd K hK
        simp only [frameOf, Act.put, List.setIfInBounds_toArray, List.set_cons_zero, List.set_cons_succ]
        have h0 : f 0 = tv ka sa na pa ta.len ca := hd 0 (by kernel_rfl)
        unfold tv at h0
        rw [h0]
        go_simp
        refine (tGood_any ta (by omega) OKK.out ka sa na W pa ca hsa hI.1.tat).mono ?_
        rintro e w' ⟨rfl, hB⟩
        refine hK.out (.bool (goodB 64 ka sa na ta)) _ _ ?_ ⟨hI.1.below hB, hI.2.1.below hB, hI.2.2.below hB⟩ hB rfl
        simp only [frameOf, Act.put, List.setIfInBounds_toArray, List.set_cons_zero, List.set_cons_succ, Nat.zero_add, Nat.reduceAdd, h0]
      · intro f W hI hd K hK
        simp only [frameOf, Act.put, List.setIfInBounds_toArray, List.set_cons_zero, List.set_cons_succ]
        have k0 := TT.c0 hI.1
        have k1 := TT.c1 hI.1
        have k2 := TT.c2 hI.1
        have k3 := TT.c3 hI.1
        go_simp
        refine hK.out (tv ka sa na pa ta.len ca) _ W ?_ hI (Below.refl _ _) rfl
        simp only [tv, frameOf, Act.put, List.setIfInBounds_toArray, List.set_cons_zero, List.set_cons_succ]
      · intro f W hI hd K hK
        simp only [frameOf, Act.put, List.setIfInBounds_toArray, List.set_cons_zero, List.set_cons_succ]
        have h2 : f 2 = tv ka sa na pa ta.len ca := hd 2 (by kernel_rfl)
        unfold tv at h2
        rw [h2]
        go_simp
        refine (rGood_any ta (by omega) OKK.out ka sa na W pa ca hsa hI.1.tat).mono ?_
        rintro e w' ⟨rfl, hB⟩
        refine hK.out (.bool (goodB 64 ka sa na ta)) _ _ ?_ ⟨hI.1.below hB, hI.2.1.below hB, hI.2.2.below hB⟩ hB rfl
        simp only [frameOf, Act.put, List.setIfInBounds_toArray, List.set_cons_zero, List.set_cons_succ, Nat.zero_add, Nat.reduceAdd, h2]
      · intro f W hI hd K hK
        simp only [frameOf, Act.put, List.setIfInBounds_toArray, List.set_cons_zero, List.set_cons_succ]
        have h1 : f 1 = .bool (goodB 64 ka sa na ta) := hd 1 (by kernel_rfl)
        have h3 : f 3 = .bool (goodB 64 ka sa na ta) := hd 3 (by kernel_rfl)
        rw [h1, h3]
        go_simp
        refine hK.out (.bool true) _ W ?_ hI (Below.refl _ _) rfl
        simp only [frameOf, Act.put, List.setIfInBounds_toArray, List.set_cons_zero, List.set_cons_succ, Nat.zero_add, Nat.reduceAdd, h1, h3]
      · intro f W hI hd K hK
        simp only [frameOf, Act.put, List.setIfInBounds_toArray, List.set_cons_zero, List.set_cons_succ]
        have h4 : f 4 = .bool true := hd 4 (by kernel_rfl)
        rw [h4]
        go_simp
        refine hK.out (.bool true) _ W ?_ hI (Below.refl _ _) rfl
        simp only [frameOf, Act.put, List.setIfInBounds_toArray, List.set_cons_zero, List.set_cons_succ, Nat.zero_add, Nat.reduceAdd, h4]
      · intro f W hI hd K hK
        simp only [frameOf, Act.put, List.setIfInBounds_toArray, List.set_cons_zero, List.set_cons_succ]
        have h5 : f 5 = .bool true := hd 5 (by kernel_rfl)
        have k0 := TT.c0 hI.1
        have k1 := TT.c1 hI.1
        have k2 := TT.c2 hI.1
        have k3 := TT.c3 hI.1
        rw [h5]
        go_simp
        refine hK.out (tv ka sa na pa ta.len ca) _ W ?_ hI (Below.refl _ _) rfl
        simp only [tv, frameOf, Act.put, List.setIfInBounds_toArray, List.set_cons_zero, List.set_cons_succ, Nat.zero_add, Nat.reduceAdd, h5]
      · intro f W hI hd K hK
        simp only [frameOf, Act.put, List.setIfInBounds_toArray, List.set_cons_zero, List.set_cons_succ]
        have h5 : f 5 = .bool true := hd 5 (by kernel_rfl)
        have h6 : f 6 = tv ka sa na pa ta.len ca := hd 6 (by kernel_rfl)
        unfold tv at h6
        rw [h5, h6]
        go_simp
        refine (tsize_any ta (by omega) OKK.out ka sa na W pa ca hka hsa hna hca hpa hI.1.tat).mono ?_
        rintro e w' ⟨rfl, hB⟩
        rw [← SA.out]
        refine hK.out (.int .i64 sA) _ _ ?_ ⟨hI.1.below hB, hI.2.1.below hB, hI.2.2.below hB⟩ hB rfl
        simp only [frameOf, Act.put, List.setIfInBounds_toArray, List.set_cons_zero, List.set_cons_succ, Nat.zero_add, Nat.reduceAdd, h5, h6]
      · intro f W hI hd K hK
        simp only [frameOf, Act.put, List.setIfInBounds_toArray, List.set_cons_zero, List.set_cons_succ]
        have h5 : f 5 = .bool true := hd 5 (by kernel_rfl)
        have k0 := TT.c0 hI.1
        have k1 := TT.c1 hI.1
        have k2 := TT.c2 hI.1
        have k3 := TT.c3 hI.1
        rw [h5]
        go_simp
        refine hK.out (tv ka sa na pa ta.len ca) _ W ?_ hI (Below.refl _ _) rfl
        simp only [tv, frameOf, Act.put, List.setIfInBounds_toArray, List.set_cons_zero, List.set_cons_succ, Nat.zero_add, Nat.reduceAdd, h5]
      · intro f W hI hd K hK
        simp only [frameOf, Act.put, List.setIfInBounds_toArray, List.set_cons_zero, List.set_cons_succ]
        have h5 : f 5 = .bool true := hd 5 (by kernel_rfl)
        have h8 : f 8 = tv ka sa na pa ta.len ca := hd 8 (by kernel_rfl)
        unfold tv at h8
        rw [h5, h8]
        go_simp
        refine (rsize_any _ ta (Nat.lt_succ_self _) (by omega) OKK.out ka sa na W pa ca hI.1.tat).mono ?_
        rintro e w' ⟨rfl, hB⟩
        rw [← SA.out]
        refine hK.out (.int .i64 sA) _ _ ?_ ⟨hI.1.below hB, hI.2.1.below hB, hI.2.2.below hB⟩ hB rfl
        simp only [frameOf, Act.put, List.setIfInBounds_toArray, List.set_cons_zero, List.set_cons_succ, Nat.zero_add, Nat.reduceAdd, h5, h8]
      · intro f W hI hd K hK
        simp only [frameOf, Act.put, List.setIfInBounds_toArray, List.set_cons_zero, List.set_cons_succ]
        have h5 : f 5 = .bool true := hd 5 (by kernel_rfl)
        have h7 : f 7 = .int .i64 sA := hd 7 (by kernel_rfl)
        have h9 : f 9 = .int .i64 sA := hd 9 (by kernel_rfl)
        rw [h5, h7, h9]
        go_simp
        refine hK.out (.bool true) _ W ?_ hI (Below.refl _ _) rfl
        simp only [frameOf, Act.put, List.setIfInBounds_toArray, List.set_cons_zero, List.set_cons_succ, Nat.zero_add, Nat.reduceAdd, h5, h7, h9]
      · intro f W hI hd K hK
        simp only [frameOf, Act.put, List.setIfInBounds_toArray, List.set_cons_zero, List.set_cons_succ]
        have h5 : f 5 = .bool true := hd 5 (by kernel_rfl)
        have h10 : f 10 = .bool true := hd 10 (by kernel_rfl)
        rw [h5, h10]
        go_simp
        refine hK.out (.bool true) _ W ?_ hI (Below.refl _ _) rfl
        simp only [frameOf, Act.put, List.setIfInBounds_toArray, List.set_cons_zero, List.set_cons_succ, Nat.zero_add, Nat.reduceAdd, h5, h10]
      · intro f W hI hd K hK
        simp only [frameOf, Act.put, List.setIfInBounds_toArray, List.set_cons_zero, List.set_cons_succ]
        have h11 : f 11 = .bool true := hd 11 (by kernel_rfl)
        rw [h11]
        go_simp
        refine hK.out (.bool true) _ W ?_ hI (Below.refl _ _) rfl
        simp only [frameOf, Act.put, List.setIfInBounds_toArray, List.set_cons_zero, List.set_cons_succ, Nat.zero_add, Nat.reduceAdd, h11]
      · intro f W hI hd K hK
        simp only [frameOf, Act.put, List.setIfInBounds_toArray, List.set_cons_zero, List.set_cons_succ]
        have h12 : f 12 = .bool true := hd 12 (by kernel_rfl)
        have k0 := TT.c0 hI.1
        have k1 := TT.c1 hI.1
        have k2 := TT.c2 hI.1
        have k3 := TT.c3 hI.1
        rw [h12]
        go_simp
        refine hK.out (tv ka sa na pa ta.len ca) _ W ?_ hI (Below.refl _ _) rfl
        simp only [tv, frameOf, Act.put, List.setIfInBounds_toArray, List.set_cons_zero, List.set_cons_succ, Nat.zero_add, Nat.reduceAdd, h12]
      · intro f W hI hd K hK
        simp only [frameOf, Act.put, List.setIfInBounds_toArray, List.set_cons_zero, List.set_cons_succ]
        have h12 : f 12 = .bool true := hd 12 (by kernel_rfl)
        have h13 : f 13 = tv ka sa na pa ta.len ca := hd 13 (by kernel_rfl)
        unfold tv at h13
        rw [h12, h13]
        go_simp
        refine (tdepth_any _ ta (Nat.lt_succ_self _) (by omega) OKK.out ka sa na W pa ca hI.1.tat).mono ?_
        rintro e w' ⟨rfl, hB⟩
        rw [← DA.out]
        refine hK.out (.int .i64 dA) _ _ ?_ ⟨hI.1.below hB, hI.2.1.below hB, hI.2.2.below hB⟩ hB rfl
        simp only [frameOf, Act.put, List.setIfInBounds_toArray, List.set_cons_zero, List.set_cons_succ, Nat.zero_add, Nat.reduceAdd, h12, h13]
      · intro f W hI hd K hK
        simp only [frameOf, Act.put, List.setIfInBounds_toArray, List.set_cons_zero, List.set_cons_succ]
        have h12 : f 12 = .bool true := hd 12 (by kernel_rfl)
        have k0 := TT.c0 hI.1
        have k1 := TT.c1 hI.1
        have k2 := TT.c2 hI.1
        have k3 := TT.c3 hI.1
        rw [h12]
        go_simp
        refine hK.out (tv ka sa na pa ta.len ca) _ W ?_ hI (Below.refl _ _) rfl
        simp only [tv, frameOf, Act.put, List.setIfInBounds_toArray, List.set_cons_zero, List.set_cons_succ, Nat.zero_add, Nat.reduceAdd, h12]
      · intro f W hI hd K hK
        simp only [frameOf, Act.put, List.setIfInBounds_toArray, List.set_cons_zero, List.set_cons_succ]
        have h12 : f 12 = .bool true := hd 12 (by kernel_rfl)
        have h15 : f 15 = tv ka sa na pa ta.len ca := hd 15 (by kernel_rfl)
        unfold tv at h15
        rw [h12, h15]
        go_simp
        refine (rdepth_any _ ta (Nat.lt_succ_self _) (by omega) OKK.out ka sa na W pa ca hI.1.tat).mono ?_
        rintro e w' ⟨rfl, hB⟩
        rw [← DA.out]
        refine hK.out (.int .i64 dA) _ _ ?_ ⟨hI.1.below hB, hI.2.1.below hB, hI.2.2.below hB⟩ hB rfl
        simp only [frameOf, Act.put, List.setIfInBounds_toArray, List.set_cons_zero, List.set_cons_succ, Nat.zero_add, Nat.reduceAdd, h12, h15]
      · intro f W hI hd K hK
        simp only [frameOf, Act.put, List.setIfInBounds_toArray, List.set_cons_zero, List.set_cons_succ]
        have h12 : f 12 = .bool true := hd 12 (by kernel_rfl)
        have h14 : f 14 = .int .i64 dA := hd 14 (by kernel_rfl)
        have h16 : f 16 = .int .i64 dA := hd 16 (by kernel_rfl)
        rw [h12, h14, h16]
        go_simp
        refine hK.out (.bool true) _ W ?_ hI (Below.refl _ _) rfl
        simp only [frameOf, Act.put, List.setIfInBounds_toArray, List.set_cons_zero, List.set_cons_succ, Nat.zero_add, Nat.reduceAdd, h12, h14, h16]
      · intro f W hI hd K hK
        simp only [frameOf, Act.put, List.setIfInBounds_toArray, List.set_cons_zero, List.set_cons_succ]
        have h12 : f 12 = .bool true := hd 12 (by kernel_rfl)
        have h17 : f 17 = .bool true := hd 17 (by kernel_rfl)
        rw [h12, h17]
        go_simp
        refine hK.out (.bool true) _ W ?_ hI (Below.refl _ _) rfl
        simp only [frameOf, Act.put, List.setIfInBounds_toArray, List.set_cons_zero, List.set_cons_succ, Nat.zero_add, Nat.reduceAdd, h12, h17]
      · intro f W hI hd K hK
        simp only [frameOf, Act.put, List.setIfInBounds_toArray, List.set_cons_zero, List.set_cons_succ]
        have h18 : f 18 = .bool true := hd 18 (by kernel_rfl)
        rw [h18]
        go_simp
        refine hK.out (.bool true) _ W ?_ hI (Below.refl _ _) rfl
        simp only [frameOf, Act.put, List.setIfInBounds_toArray, List.set_cons_zero, List.set_cons_succ, Nat.zero_add, Nat.reduceAdd, h18]
      · intro f W hI hd K hK
        simp only [frameOf, Act.put, List.setIfInBounds_toArray, List.set_cons_zero, List.set_cons_succ]
        have h19 : f 19 = .bool true := hd 19 (by kernel_rfl)
        have k0 := TT.c0 hI.1
        have k1 := TT.c1 hI.1
        have k2 := TT.c2 hI.1
        have k3 := TT.c3 hI.1
        rw [h19]
        go_simp
        refine hK.out (tv ka sa na pa ta.len ca) _ W ?_ hI (Below.refl _ _) rfl
        simp only [tv, frameOf, Act.put, List.setIfInBounds_toArray, List.set_cons_zero, List.set_cons_succ, Nat.zero_add, Nat.reduceAdd, h19]
      · intro f W hI hd K hK
        simp only [frameOf, Act.put, List.setIfInBounds_toArray, List.set_cons_zero, List.set_cons_succ]
        have h19 : f 19 = .bool true := hd 19 (by kernel_rfl)
        have k0 := TT.c0 hI.2.1
        have k1 := TT.c1 hI.2.1
        have k2 := TT.c2 hI.2.1
        have k3 := TT.c3 hI.2.1
        rw [h19]
        go_simp
        refine hK.out (tv kb sb nb pb tb.len cb) _ W ?_ hI (Below.refl _ _) rfl
        simp only [tv, frameOf, Act.put, List.setIfInBounds_toArray, List.set_cons_zero, List.set_cons_succ, Nat.zero_add, Nat.reduceAdd, h19]
      · intro f W hI hd K hK
        simp only [frameOf, Act.put, List.setIfInBounds_toArray, List.set_cons_zero, List.set_cons_succ]
        have h19 : f 19 = .bool true := hd 19 (by kernel_rfl)
        have h20 : f 20 = tv ka sa na pa ta.len ca := hd 20 (by kernel_rfl)
        unfold tv at h20
        have h21 : f 21 = tv kb sb nb pb tb.len cb := hd 21 (by kernel_rfl)
        unfold tv at h21
        rw [h19, h20, h21]
        go_simp
        refine hK.out (.slice (some ⟨W.heap.size, 0, none⟩) 2 2) _ _ ?_ ⟨hI.1.alloc _, hI.2.1.alloc _, hI.2.2.below ((Below.refl _ _).alloc (Nat.le_refl _) _)⟩ ((Below.refl _ _).alloc (Nat.le_refl _) _) (ListOf.two hI.1.tat hI.2.1.tat _)
        simp only [frameOf, Act.put, List.setIfInBounds_toArray, List.set_cons_zero, List.set_cons_succ, Nat.zero_add, Nat.reduceAdd, h19, h20, h21]
      · intro f W hI hd K hK
        simp only [frameOf, Act.put, List.setIfInBounds_toArray, List.set_cons_zero, List.set_cons_succ]
        have h19 : f 19 = .bool true := hd 19 (by kernel_rfl)
        have h22 : ListOf (.cons ka sa na pa ca ta (.cons kb sb nb pb cb tb .nil)) (f 22) W := hd 22 (by kernel_rfl)
        rw [h19]
        go_simp
        refine (vars_of (by simp [Ts.size]; omega) hok2.out h22).mono ?_
        rintro e w' ⟨u, rfl, hu, hB⟩
        rw [← ZS0.out] at hu
        refine hK.out u _ _ ?_ ⟨hI.1.below hB, hI.2.1.below hB, hI.2.2.below hB⟩ hB hu
        simp only [frameOf, Act.put, List.setIfInBounds_toArray, List.set_cons_zero, List.set_cons_succ, Nat.zero_add, Nat.reduceAdd, h19]
      · intro f W hI hd K hK
        simp only [frameOf, Act.put, List.setIfInBounds_toArray, List.set_cons_zero, List.set_cons_succ]
        have h19 : f 19 = .bool true := hd 19 (by kernel_rfl)
        rw [h19]
        go_simp
        refine hK.out (.slice (some ⟨Lb, 0, none⟩) 2 2) _ W ?_ hI (Below.refl _ _) rfl
        simp only [frameOf, Act.put, List.setIfInBounds_toArray, List.set_cons_zero, List.set_cons_succ, Nat.zero_add, Nat.reduceAdd, h19]
      · intro f W hI hd K hK
        simp only [frameOf, Act.put, List.setIfInBounds_toArray, List.set_cons_zero, List.set_cons_succ]
        have h19 : f 19 = .bool true := hd 19 (by kernel_rfl)
        have h24 : f 24 = .slice (some ⟨Lb, 0, none⟩) 2 2 := hd 24 (by kernel_rfl)
        rw [h19, h24]
        go_simp
        refine (rvars_at (.cons ka sa na pa ca ta (.cons kb sb nb pb cb tb .nil)) (by simp [Ts.size]; omega) hok2.out W (some ⟨Lb, 0, none⟩) 2 hI.2.2).mono ?_
        rintro e w' ⟨u, rfl, hu, hB⟩
        rw [← ZS0.out] at hu
        refine hK.out u _ _ ?_ ⟨hI.1.below hB, hI.2.1.below hB, hI.2.2.below hB⟩ hB hu
        simp only [frameOf, Act.put, List.setIfInBounds_toArray, List.set_cons_zero, List.set_cons_succ, Nat.zero_add, Nat.reduceAdd, h19, h24]
      · intro f W hI hd K hK
        simp only [frameOf, Act.put, List.setIfInBounds_toArray, List.set_cons_zero, List.set_cons_succ]
        have h19 : f 19 = .bool true := hd 19 (by kernel_rfl)
        obtain ⟨p23, c23, e23, i23, l23, m23⟩ : VarsOf zs (f 23) W := hd 23 (by kernel_rfl)
        obtain ⟨p25, c25, e25, i25, l25, m25⟩ : VarsOf zs (f 25) W := hd 25 (by kernel_rfl)
        rw [h19, e23, e25]
        go_simp
        refine (numbers_any zs zs W p23 p25 c23 c25 (by omega) (by omega) i23 i25).mono ?_
        rintro e w' ⟨rfl, q, hq⟩
        rw [decide_eq_true rfl]
        have hB : Below W.heap.size W w' := by rw [hq]; exact below_drewN (Below.refl _ _) q
        refine hK.out (.bool true) _ _ ?_ ⟨hI.1.below hB, hI.2.1.below hB, hI.2.2.below hB⟩ hB rfl
        simp only [frameOf, Act.put, List.setIfInBounds_toArray, List.set_cons_zero, List.set_cons_succ, Nat.zero_add, Nat.reduceAdd, h19, e23, e25]
      · intro f W hI hd K hK
        simp only [frameOf, Act.put, List.setIfInBounds_toArray, List.set_cons_zero, List.set_cons_succ]
        have h19 : f 19 = .bool true := hd 19 (by kernel_rfl)
        have h26 : f 26 = .bool true := hd 26 (by kernel_rfl)
        rw [h19, h26]
        go_simp
        refine hK.out (.bool true) _ W ?_ hI (Below.refl _ _) rfl
        simp only [frameOf, Act.put, List.setIfInBounds_toArray, List.set_cons_zero, List.set_cons_succ, Nat.zero_add, Nat.reduceAdd, h19, h26]
      · intro f W hI hd K hK
        simp only [frameOf, Act.put, List.setIfInBounds_toArray, List.set_cons_zero, List.set_cons_succ]
        have h27 : f 27 = .bool true := hd 27 (by kernel_rfl)
        rw [h27]
        go_simp
        refine hK.out (.bool true) _ W ?_ hI (Below.refl _ _) rfl
        simp only [frameOf, Act.put, List.setIfInBounds_toArray, List.set_cons_zero, List.set_cons_succ, Nat.zero_add, Nat.reduceAdd, h27]
      · intro f W hI hd K hK
        simp only [frameOf, Act.put, List.setIfInBounds_toArray, List.set_cons_zero, List.set_cons_succ]
        have h28 : f 28 = .bool true := hd 28 (by kernel_rfl)
        have k0 := TT.c0 hI.1
        have k1 := TT.c1 hI.1
        have k2 := TT.c2 hI.1
        have k3 := TT.c3 hI.1
        rw [h28]
        go_simp
        refine hK.out (tv ka sa na pa ta.len ca) _ W ?_ hI (Below.refl _ _) rfl
        simp only [tv, frameOf, Act.put, List.setIfInBounds_toArray, List.set_cons_zero, List.set_cons_succ, Nat.zero_add, Nat.reduceAdd, h28]
      · intro f W hI hd K hK
        simp only [frameOf, Act.put, List.setIfInBounds_toArray, List.set_cons_zero, List.set_cons_succ]
        have h28 : f 28 = .bool true := hd 28 (by kernel_rfl)
        have k0 := TT.c0 hI.2.1
        have k1 := TT.c1 hI.2.1
        have k2 := TT.c2 hI.2.1
        have k3 := TT.c3 hI.2.1
        rw [h28]
        go_simp
        refine hK.out (tv kb sb nb pb tb.len cb) _ W ?_ hI (Below.refl _ _) rfl
        simp only [tv, frameOf, Act.put, List.setIfInBounds_toArray, List.set_cons_zero, List.set_cons_succ, Nat.zero_add, Nat.reduceAdd, h28]
      · intro f W hI hd K hK
        simp only [frameOf, Act.put, List.setIfInBounds_toArray, List.set_cons_zero, List.set_cons_succ]
        have h28 : f 28 = .bool true := hd 28 (by kernel_rfl)
        have h29 : f 29 = tv ka sa na pa ta.len ca := hd 29 (by kernel_rfl)
        unfold tv at h29
        have h30 : f 30 = tv kb sb nb pb tb.len cb := hd 30 (by kernel_rfl)
        unfold tv at h30
        rw [h28, h29, h30]
        go_simp
        refine (tsame_any _ ta tb (Nat.lt_succ_self _) OKK.out OKL.out (by omega) (by omega) ka kb sa sb na nb W pa pb ca cb hI.1.tat hI.2.1.tat).mono ?_
        rintro e w' ⟨rfl, hB⟩
        refine hK.out (.bool (headAlike ka kb sa sb na nb && alike ta tb)) _ _ ?_ ⟨hI.1.below hB, hI.2.1.below hB, hI.2.2.below hB⟩ hB rfl
        simp only [frameOf, Act.put, List.setIfInBounds_toArray, List.set_cons_zero, List.set_cons_succ, Nat.zero_add, Nat.reduceAdd, h28, h29, h30]
      · intro f W hI hd K hK
        simp only [frameOf, Act.put, List.setIfInBounds_toArray, List.set_cons_zero, List.set_cons_succ]
        have h28 : f 28 = .bool true := hd 28 (by kernel_rfl)
        have k0 := TT.c0 hI.1
        have k1 := TT.c1 hI.1
        have k2 := TT.c2 hI.1
        have k3 := TT.c3 hI.1
        rw [h28]
        go_simp
        refine hK.out (tv ka sa na pa ta.len ca) _ W ?_ hI (Below.refl _ _) rfl
        simp only [tv, frameOf, Act.put, List.setIfInBounds_toArray, List.set_cons_zero, List.set_cons_succ, Nat.zero_add, Nat.reduceAdd, h28]
      · intro f W hI hd K hK
        simp only [frameOf, Act.put, List.setIfInBounds_toArray, List.set_cons_zero, List.set_cons_succ]
        have h28 : f 28 = .bool true := hd 28 (by kernel_rfl)
        have k0 := TT.c0 hI.2.1
        have k1 := TT.c1 hI.2.1
        have k2 := TT.c2 hI.2.1
        have k3 := TT.c3 hI.2.1
        rw [h28]
        go_simp
        refine hK.out (tv kb sb nb pb tb.len cb) _ W ?_ hI (Below.refl _ _) rfl
        simp only [tv, frameOf, Act.put, List.setIfInBounds_toArray, List.set_cons_zero, List.set_cons_succ, Nat.zero_add, Nat.reduceAdd, h28]
      · intro f W hI hd K hK
        simp only [frameOf, Act.put, List.setIfInBounds_toArray, List.set_cons_zero, List.set_cons_succ]
        have h28 : f 28 = .bool true := hd 28 (by kernel_rfl)
        have h32 : f 32 = tv ka sa na pa ta.len ca := hd 32 (by kernel_rfl)
        unfold tv at h32
        have h33 : f 33 = tv kb sb nb pb tb.len cb := hd 33 (by kernel_rfl)
        unfold tv at h33
        rw [h28, h32, h33]
        go_simp
        refine (same_of ta tb (fun w p p' c c' h h' => all_any _ ta tb (Nat.lt_succ_self _) OKK.out OKL.out (by omega) (by omega) w p p' c c' h h') ka kb sa sb na nb pa pb ca cb W hI.1.tat hI.2.1.tat).mono ?_
        rintro e w' ⟨rfl, hB⟩
        refine hK.out (.bool (headAlike ka kb sa sb na nb && alike ta tb)) _ _ ?_ ⟨hI.1.below hB, hI.2.1.below hB, hI.2.2.below hB⟩ hB rfl
        simp only [frameOf, Act.put, List.setIfInBounds_toArray, List.set_cons_zero, List.set_cons_succ, Nat.zero_add, Nat.reduceAdd, h28, h32, h33]
      · intro f W hI hd K hK
        simp only [frameOf, Act.put, List.setIfInBounds_toArray, List.set_cons_zero, List.set_cons_succ]
        have h28 : f 28 = .bool true := hd 28 (by kernel_rfl)
        have h31 : f 31 = .bool (headAlike ka kb sa sb na nb && alike ta tb) := hd 31 (by kernel_rfl)
        have h34 : f 34 = .bool (headAlike ka kb sa sb na nb && alike ta tb) := hd 34 (by kernel_rfl)
        rw [h28, h31, h34]
        go_simp
        refine hK.out (.bool true) _ W ?_ hI (Below.refl _ _) rfl
        simp only [frameOf, Act.put, List.setIfInBounds_toArray, List.set_cons_zero, List.set_cons_succ, Nat.zero_add, Nat.reduceAdd, h28, h31, h34]
      · intro f W hI hd K hK
        simp only [frameOf, Act.put, List.setIfInBounds_toArray, List.set_cons_zero, List.set_cons_succ]
        have h28 : f 28 = .bool true := hd 28 (by kernel_rfl)
        have h35 : f 35 = .bool true := hd 35 (by kernel_rfl)
        rw [h28, h35]
        go_simp
        refine hK.out (.bool true) _ W ?_ hI (Below.refl _ _) rfl
        simp only [frameOf, Act.put, List.setIfInBounds_toArray, List.set_cons_zero, List.set_cons_succ, Nat.zero_add, Nat.reduceAdd, h28, h35]
      · intro f W hI hd K hK
        simp only [frameOf, Act.put, List.setIfInBounds_toArray, List.set_cons_zero, List.set_cons_succ]
        have h36 : f 36 = .bool true := hd 36 (by kernel_rfl)
        rw [h36]
        go_simp
        refine hK.out (.bool true) _ W ?_ hI (Below.refl _ _) rfl
        simp only [frameOf, Act.put, List.setIfInBounds_toArray, List.set_cons_zero, List.set_cons_succ, Nat.zero_add, Nat.reduceAdd, h36]
      · intro f W hI hd K hK
        simp only [frameOf, Act.put, List.setIfInBounds_toArray, List.set_cons_zero, List.set_cons_succ]
        have h37 : f 37 = .bool true := hd 37 (by kernel_rfl)
        have k0 := TT.c0 hI.1
        have k1 := TT.c1 hI.1
        have k2 := TT.c2 hI.1
        have k3 := TT.c3 hI.1
        rw [h37]
        go_simp
        refine hK.out (tv ka sa na pa ta.len ca) _ W ?_ hI (Below.refl _ _) rfl
        simp only [tv, frameOf, Act.put, List.setIfInBounds_toArray, List.set_cons_zero, List.set_cons_succ, Nat.zero_add, Nat.reduceAdd, h37]
      · intro f W hI hd K hK
        simp only [frameOf, Act.put, List.setIfInBounds_toArray, List.set_cons_zero, List.set_cons_succ]
        have h37 : f 37 = .bool true := hd 37 (by kernel_rfl)
        have k0 := TT.c0 hI.1
        have k1 := TT.c1 hI.1
        have k2 := TT.c2 hI.1
        have k3 := TT.c3 hI.1
        rw [h37]
        go_simp
        refine hK.out (tv ka sa na pa ta.len ca) _ W ?_ hI (Below.refl _ _) rfl
        simp only [tv, frameOf, Act.put, List.setIfInBounds_toArray, List.set_cons_zero, List.set_cons_succ, Nat.zero_add, Nat.reduceAdd, h37]
      · intro f W hI hd K hK
        simp only [frameOf, Act.put, List.setIfInBounds_toArray, List.set_cons_zero, List.set_cons_succ]
        have h37 : f 37 = .bool true := hd 37 (by kernel_rfl)
        have h38 : f 38 = tv ka sa na pa ta.len ca := hd 38 (by kernel_rfl)
        unfold tv at h38
        have h39 : f 39 = tv ka sa na pa ta.len ca := hd 39 (by kernel_rfl)
        unfold tv at h39
        rw [h37, h38, h39]
        go_simp
        refine (tsame_any _ ta ta (Nat.lt_succ_self _) OKK.out OKK.out (by omega) (by omega) ka ka sa sa na na W pa pa ca ca hI.1.tat hI.1.tat).mono ?_
        rintro e w' ⟨rfl, hB⟩
        rw [show (headAlike ka ka sa sa na na && alike ta ta) = true from by rw [alike_refl]; simp [headAlike]]
        refine hK.out (.bool true) _ _ ?_ ⟨hI.1.below hB, hI.2.1.below hB, hI.2.2.below hB⟩ hB rfl
        simp only [frameOf, Act.put, List.setIfInBounds_toArray, List.set_cons_zero, List.set_cons_succ, Nat.zero_add, Nat.reduceAdd, h37, h38, h39]
      · intro f W hI hd K hK
        simp only [frameOf, Act.put, List.setIfInBounds_toArray, List.set_cons_zero, List.set_cons_succ]
        have h37 : f 37 = .bool true := hd 37 (by kernel_rfl)
        have h40 : f 40 = .bool true := hd 40 (by kernel_rfl)
        rw [h37, h40]
        go_simp
        refine hK.out (.bool true) _ W ?_ hI (Below.refl _ _) rfl
        simp only [frameOf, Act.put, List.setIfInBounds_toArray, List.set_cons_zero, List.set_cons_succ, Nat.zero_add, Nat.reduceAdd, h37, h40]
      · intro f W hI hd K hK
        simp only [frameOf, Act.put, List.setIfInBounds_toArray, List.set_cons_zero, List.set_cons_succ]
        have h41 : f 41 = .bool true := hd 41 (by kernel_rfl)
        rw [h41]
        go_simp
        refine hK.out (.bool true) _ W ?_ hI (Below.refl _ _) rfl
        simp only [frameOf, Act.put, List.setIfInBounds_toArray, List.set_cons_zero, List.set_cons_succ, Nat.zero_add, Nat.reduceAdd, h41]
      · intro f W hI hd K hK
        simp only [frameOf, Act.put, List.setIfInBounds_toArray, List.set_cons_zero, List.set_cons_succ]
        have h42 : f 42 = .bool true := hd 42 (by kernel_rfl)
        have k0 := TT.c0 hI.1
        have k1 := TT.c1 hI.1
        have k2 := TT.c2 hI.1
        have k3 := TT.c3 hI.1
        rw [h42]
        go_simp
        refine hK.out (tv ka sa na pa ta.len ca) _ W ?_ hI (Below.refl _ _) rfl
        simp only [tv, frameOf, Act.put, List.setIfInBounds_toArray, List.set_cons_zero, List.set_cons_succ, Nat.zero_add, Nat.reduceAdd, h42]
      · intro f W hI hd K hK
        simp only [frameOf, Act.put, List.setIfInBounds_toArray, List.set_cons_zero, List.set_cons_succ]
        have h42 : f 42 = .bool true := hd 42 (by kernel_rfl)
        have h43 : f 43 = tv ka sa na pa ta.len ca := hd 43 (by kernel_rfl)
        unfold tv at h43
        rw [h42, h43]
        go_simp
        refine (tground_any ta (by omega) OKK.out ka sa na W pa ca hka hsa hna hca hpa hI.1.tat).mono ?_
        rintro e w' ⟨rfl, hB⟩
        rw [E5.out]
        refine hK.out (.bool e0) _ _ ?_ ⟨hI.1.below hB, hI.2.1.below hB, hI.2.2.below hB⟩ hB rfl
        simp only [frameOf, Act.put, List.setIfInBounds_toArray, List.set_cons_zero, List.set_cons_succ, Nat.zero_add, Nat.reduceAdd, h42, h43]
      · intro f W hI hd K hK
        simp only [frameOf, Act.put, List.setIfInBounds_toArray, List.set_cons_zero, List.set_cons_succ]
        have h42 : f 42 = .bool true := hd 42 (by kernel_rfl)
        rw [h42]
        go_simp
        refine hK.out (.slice (some ⟨Lb, 0, none⟩) 2 2) _ W ?_ hI (Below.refl _ _) rfl
        simp only [frameOf, Act.put, List.setIfInBounds_toArray, List.set_cons_zero, List.set_cons_succ, Nat.zero_add, Nat.reduceAdd, h42]
      · intro f W hI hd K hK
        simp only [frameOf, Act.put, List.setIfInBounds_toArray, List.set_cons_zero, List.set_cons_succ]
        have h42 : f 42 = .bool true := hd 42 (by kernel_rfl)
        have h45 : f 45 = .slice (some ⟨Lb, 0, none⟩) 2 2 := hd 45 (by kernel_rfl)
        rw [h42, h45]
        go_simp
        refine hK.out (.slice (some ⟨Lb, 0, none⟩) 1 2) _ W ?_ hI (Below.refl _ _) rfl
        simp only [frameOf, Act.put, List.setIfInBounds_toArray, List.set_cons_zero, List.set_cons_succ, Nat.zero_add, Nat.reduceAdd, h42, h45]
      · intro f W hI hd K hK
        simp only [frameOf, Act.put, List.setIfInBounds_toArray, List.set_cons_zero, List.set_cons_succ]
        have h42 : f 42 = .bool true := hd 42 (by kernel_rfl)
        have h46 : f 46 = .slice (some ⟨Lb, 0, none⟩) 1 2 := hd 46 (by kernel_rfl)
        rw [h42, h46]
        go_simp
        refine (rvars_at (.cons ka sa na pa ca ta .nil) (by simp [Ts.size]; omega) OKA.out W (some ⟨Lb, 0, none⟩) 2 hI.2.2.first).mono ?_
        rintro e w' ⟨u, rfl, hu, hB⟩
        rw [← XS.out] at hu
        refine hK.out u _ _ ?_ ⟨hI.1.below hB, hI.2.1.below hB, hI.2.2.below hB⟩ hB hu
        simp only [frameOf, Act.put, List.setIfInBounds_toArray, List.set_cons_zero, List.set_cons_succ, Nat.zero_add, Nat.reduceAdd, h42, h46]
      · intro f W hI hd K hK
        simp only [frameOf, Act.put, List.setIfInBounds_toArray, List.set_cons_zero, List.set_cons_succ]
        have h42 : f 42 = .bool true := hd 42 (by kernel_rfl)
        obtain ⟨p47, c47, e47, i47, l47, m47⟩ : VarsOf xs (f 47) W := hd 47 (by kernel_rfl)
        rw [h42, e47]
        go_simp
        refine hK.out (.int .i64 xs.length) _ W ?_ hI (Below.refl _ _) rfl
        simp only [frameOf, Act.put, List.setIfInBounds_toArray, List.set_cons_zero, List.set_cons_succ, Nat.zero_add, Nat.reduceAdd, h42, e47]
      · intro f W hI hd K hK
        simp only [frameOf, Act.put, List.setIfInBounds_toArray, List.set_cons_zero, List.set_cons_succ]
        have h42 : f 42 = .bool true := hd 42 (by kernel_rfl)
        have h48 : f 48 = .int .i64 xs.length := hd 48 (by kernel_rfl)
        rw [h42, h48]
        go_simp
        refine hK.out (.bool e0) _ W ?_ hI (Below.refl _ _) rfl
        simp only [frameOf, Act.put, List.setIfInBounds_toArray, List.set_cons_zero, List.set_cons_succ, Nat.zero_add, Nat.reduceAdd, h42, h48]
      · intro f W hI hd K hK
        simp only [frameOf, Act.put, List.setIfInBounds_toArray, List.set_cons_zero, List.set_cons_succ]
        have h42 : f 42 = .bool true := hd 42 (by kernel_rfl)
        have h44 : f 44 = .bool e0 := hd 44 (by kernel_rfl)
        have h49 : f 49 = .bool e0 := hd 49 (by kernel_rfl)
        rw [h42, h44, h49]
        go_simp
        refine hK.out (.bool true) _ W ?_ hI (Below.refl _ _) rfl
        simp only [frameOf, Act.put, List.setIfInBounds_toArray, List.set_cons_zero, List.set_cons_succ, Nat.zero_add, Nat.reduceAdd, h42, h44, h49]
      · intro f W hI hd K hK
        simp only [frameOf, Act.put, List.setIfInBounds_toArray, List.set_cons_zero, List.set_cons_succ]
        have h42 : f 42 = .bool true := hd 42 (by kernel_rfl)
        have h50 : f 50 = .bool true := hd 50 (by kernel_rfl)
        rw [h42, h50]
        go_simp
        refine hK.out (.bool true) _ W ?_ hI (Below.refl _ _) rfl
        simp only [frameOf, Act.put, List.setIfInBounds_toArray, List.set_cons_zero, List.set_cons_succ, Nat.zero_add, Nat.reduceAdd, h42, h50]
      · intro f W hI hd K hK
        simp only [frameOf, Act.put, List.setIfInBounds_toArray, List.set_cons_zero, List.set_cons_succ]
        have h51 : f 51 = .bool true := hd 51 (by kernel_rfl)
        rw [h51]
        go_simp
        refine hK.out (.bool true) _ W ?_ hI (Below.refl _ _) rfl
        simp only [frameOf, Act.put, List.setIfInBounds_toArray, List.set_cons_zero, List.set_cons_succ, Nat.zero_add, Nat.reduceAdd, h51]
      · intro f W hI hd K hK
        simp only [frameOf, Act.put, List.setIfInBounds_toArray, List.set_cons_zero, List.set_cons_succ]
        have h52 : f 52 = .bool true := hd 52 (by kernel_rfl)
        rw [h52]
        go_simp
        refine (wakes_any W).mono ?_
        rintro e w' ⟨rfl, hB⟩
        refine hK.out (.bool true) _ _ ?_ ⟨hI.1.below hB, hI.2.1.below hB, hI.2.2.below hB⟩ hB rfl
        simp only [frameOf, Act.put, List.setIfInBounds_toArray, List.set_cons_zero, List.set_cons_succ, Nat.zero_add, Nat.reduceAdd, h52]
      · intro f W hI hd K hK
        simp only [frameOf, Act.put, List.setIfInBounds_toArray, List.set_cons_zero, List.set_cons_succ]
        have h52 : f 52 = .bool true := hd 52 (by kernel_rfl)
        have h53 : f 53 = .bool true := hd 53 (by kernel_rfl)
        rw [h52, h53]
        go_simp
        refine hK.out (.bool true) _ W ?_ hI (Below.refl _ _) rfl
        simp only [frameOf, Act.put, List.setIfInBounds_toArray, List.set_cons_zero, List.set_cons_succ, Nat.zero_add, Nat.reduceAdd, h52, h53]
      · intro f W hI hd K hK
        simp only [frameOf, Act.put, List.setIfInBounds_toArray, List.set_cons_zero, List.set_cons_succ]
        have h54 : f 54 = .bool true := hd 54 (by kernel_rfl)
        rw [h54]
        go_simp
        refine hK.out (.bool true) _ W ?_ hI (Below.refl _ _) rfl
        simp only [frameOf, Act.put, List.setIfInBounds_toArray, List.set_cons_zero, List.set_cons_succ, Nat.zero_add, Nat.reduceAdd, h54]
    case done =>
      intro f W hI hF
      have h55 : f 55 = .bool true := hF 55 (by decide)
      simp only [frameOf, Act.put, List.setIfInBounds_toArray, List.set_cons_zero, List.set_cons_succ]
      rw [h55]
      clear hF
      go_wp2
      go_ret
      exact ⟨rfl, hI.1.B⟩
end Go.Proofs.Ytlhclblekpngnaa
