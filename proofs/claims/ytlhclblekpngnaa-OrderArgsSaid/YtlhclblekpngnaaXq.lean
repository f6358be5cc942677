/-
  The law OrderArgs, walked. (Written by gen_xq.py.)
-/
import Derived.Test.YtlhclblekpngnaaXi
import Derived.Test.YtlhclblekpngnaaXd
import Derived.Test.YtlhclblekpngnaaXp
import Derived.Test.YtlhclblekpngnaaUa
namespace Go.Proofs.Ytlhclblekpngnaa
open Go.RowKit

theorem good_shape' {k : Int} {s : ByteArray} {n : Int} {p : Option Addr} {c : Nat} {ts : Ts} (h : goodB 64 k s n ts = true) : shapeL (.cons k s n p c ts .nil) = true := by
  rw [goodB, Bool.and_eq_true] at h
  rw [shapeL, h.2]
  rfl

theorem or0_right (a : Int) : or0 a 0 = a := by
  unfold or0
  split <;> omega

theorem or0_left (a : Int) : or0 0 a = a := rfl

section
variable {name : ByteArray} {ka : Int} {sa : ByteArray} {na : Int} {pa : Option Addr} {ca : Nat} {ta : Ts} {kb : Int} {sb : ByteArray} {nb : Int} {pb : Option Addr} {cb' : Nat} {tb u v : Ts}

theorem cmp_one (h : Ts.twin u (.cons ka sa na pa ca ta .nil)) (h' : Ts.twin v (.cons kb sb nb pb cb' tb .nil)) : cmpT 4 4 name name 0 0 u v (cmpL u v) = cmpT ka kb sa sb na nb ta tb (cmpL ta tb) := by
  rw [cmpT_twin h h', cmpT, ci_self, ci_self, cb_self]
  simp only [Ts.len, ci_self, or0_left, cmpL, or0_right]

theorem cmp_more (h : Ts.twin u (.cons ka sa na pa ca ta (.cons kb sb nb pb cb' tb .nil))) (h' : Ts.twin v (.cons kb sb nb pb cb' tb .nil)) : cmpT 4 4 name name 0 0 u v (cmpL u v) = 1 := by
  rw [cmpT_twin h h', cmpT, ci_self, ci_self]
  simp [Ts.len, or0, ci]

theorem cmp_two (h : Ts.twin u (.cons ka sa na pa ca ta (.cons kb sb nb pb cb' tb .nil))) (h' : Ts.twin v (.cons ka sa na pa ca ta (.cons ka sa na pa ca ta .nil))) : cmpT 4 4 name name 0 0 u v (cmpL u v) = cmpT kb ka sb sa nb na tb ta (cmpL tb ta) := by
  rw [cmpT_twin h h', cmpT, ci_self, ci_self, cb_self]
  simp only [Ts.len, ci_self, or0_left, cmpL, or0_right, cmpT_refl]

theorem cmp_atom (r : Int) : cmpT 3 4 name name 0 0 .nil u r = -1 := by
  simp [cmpT, or0, ci]

theorem box_tt {w W : World} {x y : Value} {t : Ts} (hB : Below w.heap.size w W) (hf : Full x y W) (hF : FOf name t y W) : ∃ T us q d, x = .pointer (some ⟨T, 0, none⟩) ∧ TT w T 4 name 0 q d us W ∧ Ts.twin us t ∧ us.ok := by
  obtain ⟨T, k, s, n, p, len, c, rfl, h2, h3, c0, c1, c2, c3⟩ := hf
  obtain ⟨us, q, d, h4, h5, h6, h7⟩ := hF
  rw [h4] at h2
  unfold tv at h2
  injection h2 with h2
  simp only [Array.mk.injEq, List.cons.injEq, Value.int.injEq, Value.string.injEq, Value.slice.injEq, and_true, true_and] at h2
  obtain ⟨rfl, rfl, rfl, rfl, rfl, rfl⟩ := h2
  exact ⟨T, us, q, d, rfl, ⟨hB, h3, c0, c1, c2, c3, h5⟩, h6, h7.2.2.2.2.2.1⟩
end

set_option maxRecDepth 100000 in
set_option maxHeartbeats 40000000 in
theorem orderArgs_true (w : World) (name : ByteArray) (ka : Int) (sa : ByteArray) (na : Int) (pa : Option Addr) (ca : Nat) (ta : Ts) (kb : Int) (sb : ByteArray) (nb : Int) (pb : Option Addr) (cb' : Nat) (tb : Ts)
    (hname : name.size ≤ 140737488351232) (hoka : Ts.ok (.cons ka sa na pa ca ta .nil)) (hata : Ts.At w pa ta) (hokb : Ts.ok (.cons kb sb nb pb cb' tb .nil)) (hatb : Ts.At w pb tb) :
    Calls Try.prog 10 #[.string name, tv ka sa na pa ta.len ca, tv kb sb nb pb tb.len cb'] w fun e w' => e = .returned (.bool true) ∧ Below w.heap.size w w' := by
  unfold tv
  have OKA := Lib.hid hoka
  have OKB := Lib.hid hokb
  have ATA := Lib.hid hata
  have ATB := Lib.hid hatb
  have hsa := hoka.2.1
  have hsb := hokb.2.1
  have ok2 : Ts.ok (.cons ka sa na pa ca ta (.cons kb sb nb pb cb' tb .nil)) := ⟨hoka.1, hoka.2.1, hoka.2.2.1, hoka.2.2.2.1, hoka.2.2.2.2.1, hoka.2.2.2.2.2.1, hokb⟩
  have ok3 : Ts.ok (.cons ka sa na pa ca ta (.cons ka sa na pa ca ta .nil)) := ⟨hoka.1, hoka.2.1, hoka.2.2.1, hoka.2.2.2.1, hoka.2.2.2.2.1, hoka.2.2.2.2.2.1, hoka⟩
  have OKAB := Lib.hid ok2
  have OKAA := Lib.hid ok3
  clear hoka hokb hata hatb ok2 ok3
  go_enter Try.func10, Try.ntmps10
  go_wp2_with fail
  obtain ⟨W0, hW0, hs0, hA0, hTa, hTb⟩ := box2 w #[Value.int IntKind.u8 ka, Value.string sa, Value.int IntKind.i64 na, Value.slice pa ta.len ca] #[Value.int IntKind.u8 kb, Value.string sb, Value.int IntKind.i64 nb, Value.slice pb tb.len cb'] 24 24
  rw [← hW0]
  have Z0 := Lib.hid hW0
  clear hW0
  have TA : TT w w.heap.size ka sa na pa ca ta W0 := ⟨hA0, by omega, hTa 0 _ rfl, hTa 1 _ rfl, hTa 2 _ rfl, hTa 3 _ rfl, ATA.out.below hA0⟩
  have TB : TT w (w.heap.size + 1) kb sb nb pb cb' tb W0 := ⟨hA0, by omega, hTb 0 _ rfl, hTb 1 _ rfl, hTb 2 _ rfl, hTb 3 _ rfl, ATB.out.below hA0⟩
  obtain ⟨W2, hW2, hs2, hA2, hc2⟩ := box1 W0 #[Value.int IntKind.u8 ka, Value.string sa, Value.int IntKind.i64 na, Value.slice pa ta.len ca, Value.int IntKind.u8 kb, Value.string sb, Value.int IntKind.i64 nb, Value.slice pb tb.len cb'] 24
  rw [← hW2]
  have Z2 := Lib.hid hW2
  clear hW2 hTa hTb hA0
  replace TA := TA.below hA2
  replace TB := TB.below hA2
  rw [show w.heap.size + 1 + 1 = W0.heap.size by omega]
  have at2 : Ts.At W2 (some ⟨W0.heap.size, 0, none⟩) (.cons ka sa na pa ca ta (.cons kb sb nb pb cb' tb .nil)) := lies_two rfl hc2 TA.tat TB.tat
  have L1 := Lib.hid at2
  clear hc2 hA2 at2
  by_cases hg : decide (1000 < manyP (.cons ka sa na pa ca ta (.cons kb sb nb pb cb' tb .nil)) 0) = true
  · refine (great_is (.cons ka sa na pa ca ta (.cons kb sb nb pb cb' tb .nil)) OKAB.out true hg W2 _ 2 L1.out (by simp [Ts.len])).mono ?_
    rintro e w2 ⟨rfl, hB⟩
    replace TA := TA.below hB
    clear hg hB
    go_wp2_with fail
    refine (wakes2_any _).mono ?_
    rintro e w9 ⟨rfl, hB⟩
    replace TA := TA.below hB
    go_wp2
    go_ret
    exact ⟨rfl, TA.B⟩
  rw [Bool.not_eq_true] at hg
  have hsz0 := small_of_many hg
  simp only [Ts.size] at hsz0
  refine (great_is (.cons ka sa na pa ca ta (.cons kb sb nb pb cb' tb .nil)) OKAB.out false hg W2 _ 2 L1.out (by simp [Ts.len])).mono ?_
  rintro e w2 ⟨rfl, hB⟩
  replace TA := TA.below hB
  replace TB := TB.below hB
  clear hg hB L1
  have k0 := TA.c0
  have k1 := TA.c1
  have k2 := TA.c2
  have k3 := TA.c3
  go_wp2_with fail
  refine (rGood_any ta (by omega) OKA.out.2.2.2.2.2.1 ka sa na w2 pa ca hsa TA.tat).mono ?_
  rintro e w3 ⟨rfl, hB⟩
  replace TA := TA.below hB
  replace TB := TB.below hB
  clear hB k0 k1 k2 k3
  by_cases hgd : goodB 64 ka sa na ta = false
  · rw [hgd]
    clear hgd
    go_wp2_with fail
    refine (wakes2_any _).mono ?_
    rintro e w9 ⟨rfl, hB⟩
    replace TA := TA.below hB
    go_wp2
    go_ret
    exact ⟨rfl, TA.B⟩
  rw [Bool.not_eq_false] at hgd
  rw [hgd]
  have SHA : Hid (shapeL (.cons ka sa na pa ca ta .nil) = true) := Lib.hid (good_shape' hgd)
  clear hgd
  have k0 := TB.c0
  have k1 := TB.c1
  have k2 := TB.c2
  have k3 := TB.c3
  go_wp2_with fail
  refine (rGood_any tb (by omega) OKB.out.2.2.2.2.2.1 kb sb nb w3 pb cb' hsb TB.tat).mono ?_
  rintro e w4 ⟨rfl, hB⟩
  replace TA := TA.below hB
  replace TB := TB.below hB
  clear hB k0 k1 k2 k3
  by_cases hgd : goodB 64 kb sb nb tb = false
  · rw [hgd]
    clear hgd
    go_wp2_with fail
    refine (wakes2_any _).mono ?_
    rintro e w9 ⟨rfl, hB⟩
    replace TA := TA.below hB
    go_wp2
    go_ret
    exact ⟨rfl, TA.B⟩
  rw [Bool.not_eq_false] at hgd
  rw [hgd]
  have SHB : Hid (shapeL (.cons kb sb nb pb cb' tb .nil) = true) := Lib.hid (good_shape' hgd)
  clear hgd
  go_wp2_with fail
  refine (rname_any name hname w4).mono ?_
  rintro e w5 ⟨rfl, rfl⟩
  by_cases hnm : nameB name = false
  · rw [hnm]
    clear hnm
    go_wp2_with fail
    refine (wakes2_any _).mono ?_
    rintro e w9 ⟨rfl, hB⟩
    replace TA := TA.below hB
    go_wp2
    go_ret
    exact ⟨rfl, TA.B⟩
  rw [Bool.not_eq_false] at hnm
  rw [hnm]
  clear hnm
  have k0 := TA.c0
  have k1 := TA.c1
  have k2 := TA.c2
  have k3 := TA.c3
  have m0 := TB.c0
  have m1 := TB.c1
  have m2 := TB.c2
  have m3 := TB.c3
  go_wp2_with fail
  obtain ⟨W5, hW5, hs5, hA5, hc5⟩ := box1 w5 #[Value.int IntKind.u8 ka, Value.string sa, Value.int IntKind.i64 na, Value.slice pa ta.len ca, Value.int IntKind.u8 kb, Value.string sb, Value.int IntKind.i64 nb, Value.slice pb tb.len cb'] 24
  rw [← hW5]
  have Z5 := Lib.hid hW5
  replace TA := TA.below hA5
  replace TB := TB.below hA5
  have at5 : Ts.At W5 (some ⟨w5.heap.size, 0, none⟩) (.cons ka sa na pa ca ta (.cons kb sb nb pb cb' tb .nil)) := lies_two rfl hc5 TA.tat TB.tat
  clear hW5 hA5 hc5 k0 k1 k2 k3 m0 m1 m2 m3
  refine (F_any name (.cons ka sa na pa ca ta (.cons kb sb nb pb cb' tb .nil)) (by simp only [Ts.size]; omega) OKAB.out W5 _ 2 at5).mono ?_
  rintro e w6 ⟨us, p', c', rfl, hat, htw, hok, hcl, hpn, hB⟩
  rw [if_neg (by simp [Ts.len])]
  unfold tv
  have hsu := Ts.twin_size _ _ htw
  simp only [Ts.size] at hsu
  replace TA := TA.below hB
  replace TB := TB.below hB
  have AT := Lib.hid hat.at
  have OKU := Lib.hid hok
  clear hat htw hok hB at5 hcl hpn
  go_wp2_with fail
  refine (rGood_any us (by omega) OKU.out 4 name 0 w6 p' c' hname AT.out).mono ?_
  rintro e w7 ⟨rfl, hB⟩
  replace TA := TA.below hB
  replace TB := TB.below hB
  clear hB AT OKU hsu
  by_cases hgd : goodB 64 4 name 0 us = false
  · rw [hgd]
    clear hgd
    go_wp2_with fail
    refine (wakes2_any _).mono ?_
    rintro e w9 ⟨rfl, hB⟩
    replace TA := TA.below hB
    go_wp2
    go_ret
    exact ⟨rfl, TA.B⟩
  rw [Bool.not_eq_false] at hgd
  rw [hgd]
  clear hgd
  go_wp2_with fail
  refine region_by_inv (G3 w7.drew (.string name) (tv ka sa na pa ta.len ca) (tv kb sb nb pb tb.len cb') (ListOf (.cons ka sa na pa ca ta .nil)) (ListOf (.cons kb sb nb pb cb' tb .nil)) (FOf name (.cons ka sa na pa ca ta .nil)) (FOf name (.cons kb sb nb pb cb' tb .nil)))
    (by kernel_rfl) (by kernel_rfl) (by kernel_rfl) ?h0 ?steps ?done
  case h0 =>
    intro f
    exact ⟨Below.refl _ _, fun h => (by cases h), fun h => (by cases h), fun h => (by cases h), fun h => (by cases h), fun h => (by cases h), fun h => (by cases h), fun h => (by cases h), fun h => (by cases h), fun h => (by cases h), fun h => (by cases h), fun h => (by cases h), fun h => (by cases h), fun h => (by cases h)⟩
  case steps =>
    replace TA := TA.drewN 1
    replace TB := TB.drewN 1
    refine ⟨?_, ?_, ?_, ?_, ?_, ?_, ?_, ?_, ?_, ?_, ?_, ?_, trivial⟩
    · intro L f W hi hw hG K hK
      simp only [frameOf, Act.put, List.setIfInBounds_toArray, List.set_cons_zero, List.set_cons_succ]
      go_simp
      refine hK.out (.string name) _ W ?_ (hG.set0 hi rfl)
      simp only [frameOf, Act.put, List.setIfInBounds_toArray, List.set_cons_zero, List.set_cons_succ]
    · intro L f W hi hw hG K hK
      simp only [frameOf, Act.put, List.setIfInBounds_toArray, List.set_cons_zero, List.set_cons_succ]
      have tt := TA.below hG.B
      have k0 := tt.c0
      have k1 := tt.c1
      have k2 := tt.c2
      have k3 := tt.c3
      go_simp
      refine hK.out (tv ka sa na pa ta.len ca) _ W ?_ (hG.set1 hi rfl)
      simp only [tv, frameOf, Act.put, List.setIfInBounds_toArray, List.set_cons_zero, List.set_cons_succ]
    · intro L f W hi hw hG K hK
      simp only [frameOf, Act.put, List.setIfInBounds_toArray, List.set_cons_zero, List.set_cons_succ]
      have e1 := hG.f1 (hw 1 (by kernel_rfl))
      unfold tv at e1
      rw [e1]
      have tt := TA.below hG.B
      go_simp
      refine hK.out (.slice (some ⟨W.heap.size, 0, none⟩) 1 1) _ _ ?_ ((hG.keep (fun _ _ _ h => h.below) (fun _ _ _ h => h.below) (fun _ _ _ h => h.below) (fun _ _ _ h => h.below) ((Below.refl _ _).alloc (Nat.le_refl _) _)).set2 hi (ListOf.one tt.tat _))
      simp only [frameOf, Act.put, List.setIfInBounds_toArray, List.set_cons_zero, List.set_cons_succ, e1]
    · intro L f W hi hw hG K hK
      simp only [frameOf, Act.put, List.setIfInBounds_toArray, List.set_cons_zero, List.set_cons_succ]
      have e0 := hG.f0 (hw 0 (by kernel_rfl))
      rw [e0]
      obtain ⟨bl, el, atl⟩ := hG.f2 (hw 2 (by kernel_rfl)) hi
      rw [el]
      go_simp
      refine (F_any name (.cons ka sa na pa ca ta .nil) (by simp only [Ts.size]; omega) OKA.out W _ _ atl).mono ?_
      rintro e w' ⟨us, p', c', rfl, hat, htw, hok, hcl, hpn, hB⟩
      rw [if_neg (by simp [Ts.len])]
      refine hK.out (tv 4 name 0 p' us.len c') _ _ ?_ ((hG.keep (fun _ _ _ h => h.below) (fun _ _ _ h => h.below) (fun _ _ _ h => h.below) (fun _ _ _ h => h.below) hB).set3 hi ⟨us, p', c', rfl, hat.at, htw, ⟨by omega, hname, by omega, hcl, hpn, hok, trivial⟩⟩)
      simp only [frameOf, Act.put, List.setIfInBounds_toArray, List.set_cons_zero, List.set_cons_succ, e0, el]
    · intro L f W hi hw hG K hK
      simp only [frameOf, Act.put, List.setIfInBounds_toArray, List.set_cons_zero, List.set_cons_succ]
      go_simp
      refine hK.out (.string name) _ W ?_ (hG.set4 hi rfl)
      simp only [frameOf, Act.put, List.setIfInBounds_toArray, List.set_cons_zero, List.set_cons_succ]
    · intro L f W hi hw hG K hK
      simp only [frameOf, Act.put, List.setIfInBounds_toArray, List.set_cons_zero, List.set_cons_succ]
      have tt := TB.below hG.B
      have k0 := tt.c0
      have k1 := tt.c1
      have k2 := tt.c2
      have k3 := tt.c3
      go_simp
      refine hK.out (tv kb sb nb pb tb.len cb') _ W ?_ (hG.set5 hi rfl)
      simp only [tv, frameOf, Act.put, List.setIfInBounds_toArray, List.set_cons_zero, List.set_cons_succ]
    · intro L f W hi hw hG K hK
      simp only [frameOf, Act.put, List.setIfInBounds_toArray, List.set_cons_zero, List.set_cons_succ]
      have e1 := hG.f5 (hw 5 (by kernel_rfl))
      unfold tv at e1
      rw [e1]
      have tt := TB.below hG.B
      go_simp
      refine hK.out (.slice (some ⟨W.heap.size, 0, none⟩) 1 1) _ _ ?_ ((hG.keep (fun _ _ _ h => h.below) (fun _ _ _ h => h.below) (fun _ _ _ h => h.below) (fun _ _ _ h => h.below) ((Below.refl _ _).alloc (Nat.le_refl _) _)).set6 hi (ListOf.one tt.tat _))
      simp only [frameOf, Act.put, List.setIfInBounds_toArray, List.set_cons_zero, List.set_cons_succ, e1]
    · intro L f W hi hw hG K hK
      simp only [frameOf, Act.put, List.setIfInBounds_toArray, List.set_cons_zero, List.set_cons_succ]
      have e0 := hG.f4 (hw 4 (by kernel_rfl))
      rw [e0]
      obtain ⟨bl, el, atl⟩ := hG.f6 (hw 6 (by kernel_rfl)) hi
      rw [el]
      go_simp
      refine (F_any name (.cons kb sb nb pb cb' tb .nil) (by simp only [Ts.size]; omega) OKB.out W _ _ atl).mono ?_
      rintro e w' ⟨us, p', c', rfl, hat, htw, hok, hcl, hpn, hB⟩
      rw [if_neg (by simp [Ts.len])]
      refine hK.out (tv 4 name 0 p' us.len c') _ _ ?_ ((hG.keep (fun _ _ _ h => h.below) (fun _ _ _ h => h.below) (fun _ _ _ h => h.below) (fun _ _ _ h => h.below) hB).set7 hi ⟨us, p', c', rfl, hat.at, htw, ⟨by omega, hname, by omega, hcl, hpn, hok, trivial⟩⟩)
      simp only [frameOf, Act.put, List.setIfInBounds_toArray, List.set_cons_zero, List.set_cons_succ, e0, el]
    · intro L f W hi hw hG K hK
      simp only [frameOf, Act.put, List.setIfInBounds_toArray, List.set_cons_zero, List.set_cons_succ]
      go_simp
      refine hK.out (.pointer (some ⟨W.heap.size, 0, none⟩)) _ _ ?_ ((hG.keep (fun _ _ _ h => h.below) (fun _ _ _ h => h.below) (fun _ _ _ h => h.below) (fun _ _ _ h => h.below) ((Below.refl _ _).alloc (Nat.le_refl _) _)).set8 hi (zp_alloc hG.B ⟨_, _, _, _, _, rfl⟩) ?_)
      · simp only [frameOf, Act.put, List.setIfInBounds_toArray, List.set_cons_zero, List.set_cons_succ]
      · intro h9
        cases h11 : L 11 with
        | false => exact (zp_other (hG.f9 h9 h11)).symm
        | true => exact no (hG.w10 (hG.w11 h11).1).1 hi
    · intro L f W hi hw hG K hK
      simp only [frameOf, Act.put, List.setIfInBounds_toArray, List.set_cons_zero, List.set_cons_succ]
      go_simp
      refine hK.out (.pointer (some ⟨W.heap.size, 0, none⟩)) _ _ ?_ ((hG.keep (fun _ _ _ h => h.below) (fun _ _ _ h => h.below) (fun _ _ _ h => h.below) (fun _ _ _ h => h.below) ((Below.refl _ _).alloc (Nat.le_refl _) _)).set9 hi (zp_alloc hG.B ⟨_, _, _, _, _, rfl⟩) ?_)
      · simp only [frameOf, Act.put, List.setIfInBounds_toArray, List.set_cons_zero, List.set_cons_succ]
      · intro h8
        cases h10 : L 10 with
        | false => exact zp_other (hG.f8 h8 h10)
        | true => exact no (hG.w10 h10).2.2.1 hi
    · intro L f W hi hw hG K hK
      simp only [frameOf, Act.put, List.setIfInBounds_toArray, List.set_cons_zero, List.set_cons_succ]
      have h8 := hw 8 (by kernel_rfl)
      have h3 := hw 3 (by kernel_rfl)
      have h9 := hw 9 (by kernel_rfl)
      have h7 := hw 7 (by kernel_rfl)
      obtain ⟨us, q, d, ef, -, -, -⟩ := hG.f3 h3
      unfold tv at ef
      obtain ⟨T, hT, hB0, hfz, W', hW', hfull, hs, ho, hf, hmk, hbl⟩ := box_store (k := 4) (s := name) (n := 0) (p := q) (len := us.len) (c := d) (hG.f8 h8 hi)
      have hfull2 : Full (f 8) (f 3) W' := by rw [ef]; exact hfull
      have hzp := hG.f8 h8 hi
      rw [hT] at hzp
      obtain ⟨y0, y1, y2, y3, g0, g1, g2, g3⟩ := hzp.cells
      clear hzp
      rw [hT, ef]
      have z0 := hfz 0
      have z1 := hfz 1
      have z2 := hfz 2
      have z3 := hfz 3
      go_simp
      rw [← hW']
      refine hK.out undef _ _ ?_ ⟨hbl _ hG.B, hG.f0, hG.f1, fun _ b => no h3 b, fun _ => (hG.f3 h3).store (shape_kinds SHA.out) hmk ho, hG.f4, hG.f5, fun _ b => no h7 b, fun _ => (hG.f7 h7).store (shape_kinds SHB.out) hmk ho, fun _ b => no rfl b, fun a b => (hG.f9 a b).store (fun e => hG.ne h8 h9 (hT.trans e.symm)) hs ho hf, hG.ne, fun _ => ⟨h8, h3, h9, h7, hfull2⟩, fun a => no (hG.w11 a).1 hi⟩
      simp only [frameOf, Act.put, List.setIfInBounds_toArray, List.set_cons_zero, List.set_cons_succ, hT, ef]
    · intro L f W hi hw hG K hK
      simp only [frameOf, Act.put, List.setIfInBounds_toArray, List.set_cons_zero, List.set_cons_succ]
      have h9 := hw 9 (by kernel_rfl)
      have h7 := hw 7 (by kernel_rfl)
      have h10 := hw 10 (by kernel_rfl)
      obtain ⟨h8, h3, -, -, hfl⟩ := hG.w10 h10
      obtain ⟨us, q, d, ef, -, -, -⟩ := hG.f7 h7
      unfold tv at ef
      obtain ⟨T, hT, hB0, hfz, W', hW', hfull, hs, ho, hf, hmk, hbl⟩ := box_store (k := 4) (s := name) (n := 0) (p := q) (len := us.len) (c := d) (hG.f9 h9 hi)
      have hfull2 : Full (f 9) (f 7) W' := by rw [ef]; exact hfull
      have hzp := hG.f9 h9 hi
      rw [hT] at hzp
      obtain ⟨y0, y1, y2, y3, g0, g1, g2, g3⟩ := hzp.cells
      clear hzp
      rw [hT, ef]
      have z0 := hfz 0
      have z1 := hfz 1
      have z2 := hfz 2
      have z3 := hfz 3
      go_simp
      rw [← hW']
      refine hK.out undef _ _ ?_ ⟨hbl _ hG.B, hG.f0, hG.f1, fun _ b => no h3 b, fun _ => (hG.f3 h3).store (shape_kinds SHA.out) hmk ho, hG.f4, hG.f5, fun _ b => no h7 b, fun _ => (hG.f7 h7).store (shape_kinds SHB.out) hmk ho, fun _ b => no h10 b, fun _ b => no rfl b, hG.ne, fun _ => ⟨h8, h3, h9, h7, hfl.store (fun e => hG.ne h8 h9 (e.trans hT.symm)) hs ho⟩, fun _ => ⟨h10, hfull2⟩⟩
      simp only [frameOf, Act.put, List.setIfInBounds_toArray, List.set_cons_zero, List.set_cons_succ, hT, ef]
  case done =>
    intro L f W hL hG
    obtain ⟨-, -, -, -, hfu⟩ := hG.w10 (hL 10 (by decide))
    obtain ⟨-, hfu'⟩ := hG.w11 (hL 11 (by decide))
    replace TA := (TA.drewN 1).below hG.B
    replace TB := (TB.drewN 1).below hG.B
    obtain ⟨T7, usf, qf, df, e7, TF, twf, okf⟩ := box_tt TA.B hfu (hG.f3 (hL 3 (by decide)))
    obtain ⟨T8, usg, qg, dg, e8, TG, twg, okg⟩ := box_tt TA.B hfu' (hG.f7 (hL 7 (by decide)))
    simp only [frameOf, Act.put, List.setIfInBounds_toArray, List.set_cons_zero, List.set_cons_succ]
    rw [e7, e8]
    have TWF := Lib.hid twf
    have TWG := Lib.hid twg
    have OKF := Lib.hid okf
    have OKG := Lib.hid okg
    clear hG hfu hfu' twf twg okf okg hL e7 e8
    obtain ⟨x, hx⟩ : ∃ x, cmpT ka kb sa sb na nb ta tb (cmpL ta tb) = x := ⟨_, rfl⟩
    obtain ⟨y, hy⟩ : ∃ y, cmpT kb ka sb sa nb na tb ta (cmpL tb ta) = y := ⟨_, rfl⟩
    have HX := Lib.hid hx
    have HY := Lib.hid hy
    clear hx hy
    go_wp2_with fail
    refine region_by_facts (fun W => TT w w.heap.size ka sa na pa ca ta W ∧ TT w (w.heap.size + 1) kb sb nb pb cb' tb W ∧ TT w T7 4 name 0 qf df usf W ∧ TT w T8 4 name 0 qg dg usg W)
      [fun v _ => v = tv 4 name 0 qf usf.len df, fun v _ => v = tv 4 name 0 qg usg.len dg, fun v _ => v = .int .i64 x, fun v _ => v = tv ka sa na pa ta.len ca, fun v _ => v = tv kb sb nb pb tb.len cb', fun v _ => v = .int .i64 x, fun v _ => v = .bool true, fun v _ => v = .bool true, fun v _ => v = .string name, fun v _ => v = tv ka sa na pa ta.len ca, fun v _ => v = tv kb sb nb pb tb.len cb', ListOf (.cons ka sa na pa ca ta (.cons kb sb nb pb cb' tb .nil)), FOf name (.cons ka sa na pa ca ta (.cons kb sb nb pb cb' tb .nil)), fun v _ => v = .string name, fun v _ => v = tv kb sb nb pb tb.len cb', ListOf (.cons kb sb nb pb cb' tb .nil), FOf name (.cons kb sb nb pb cb' tb .nil), fun v _ => v = .int .i64 1, fun v _ => v = .bool true, fun v _ => v = .bool true, fun v _ => v = .bool true, fun v _ => v = .string name, fun v _ => v = tv 3 name 0 none 0 0, fun v _ => v = tv 4 name 0 qf usf.len df, fun v _ => v = .int .i64 (-1), fun v _ => v = .bool true, fun v _ => v = .bool true, fun v _ => v = .bool true, fun v _ => v = .string name, fun v _ => v = tv ka sa na pa ta.len ca, fun v _ => v = tv kb sb nb pb tb.len cb', ListOf (.cons ka sa na pa ca ta (.cons kb sb nb pb cb' tb .nil)), FOf name (.cons ka sa na pa ca ta (.cons kb sb nb pb cb' tb .nil)), fun v _ => v = .string name, fun v _ => v = tv ka sa na pa ta.len ca, fun v _ => v = tv ka sa na pa ta.len ca, ListOf (.cons ka sa na pa ca ta (.cons ka sa na pa ca ta .nil)), FOf name (.cons ka sa na pa ca ta (.cons ka sa na pa ca ta .nil)), fun v _ => v = .int .i64 y, fun v _ => v = tv kb sb nb pb tb.len cb', fun v _ => v = tv ka sa na pa ta.len ca, fun v _ => v = .int .i64 y, fun v _ => v = .bool true, fun v _ => v = .bool true, fun v _ => v = .bool true, fun v _ => v = .bool true, fun v _ => v = .bool true, fun v _ => v = .bool true]
      ⟨.eq _, .eq _, .eq _, .eq _, .eq _, .eq _, .eq _, .eq _, .eq _, .eq _, .eq _, fun _ _ _ h => h.below, fun _ _ _ h => h.below, .eq _, .eq _, fun _ _ _ h => h.below, fun _ _ _ h => h.below, .eq _, .eq _, .eq _, .eq _, .eq _, .eq _, .eq _, .eq _, .eq _, .eq _, .eq _, .eq _, .eq _, .eq _, fun _ _ _ h => h.below, fun _ _ _ h => h.below, .eq _, .eq _, .eq _, fun _ _ _ h => h.below, fun _ _ _ h => h.below, .eq _, .eq _, .eq _, .eq _, .eq _, .eq _, .eq _, .eq _, .eq _, .eq _, trivial⟩
      (by kernel_rfl) (by kernel_rfl) (by kernel_rfl) ?h0 ?steps ?done
    case h0 => exact ⟨TA.drewN 1, TB.drewN 1, TF.drewN 1, TG.drewN 1⟩
    case steps =>
      refine ⟨?_, ?_, ?_, ?_, ?_, ?_, ?_, ?_, ?_, ?_, ?_, ?_, ?_, ?_, ?_, ?_, ?_, ?_, ?_, ?_, ?_, ?_, ?_, ?_, ?_, ?_, ?_, ?_, ?_, ?_, ?_, ?_, ?_, ?_, ?_, ?_, ?_, ?_, ?_, ?_, ?_, ?_, ?_, ?_, ?_, ?_, ?_, ?_, trivial⟩
      · intro f W hI hd K hK
        simp only [frameOf, Act.put, List.setIfInBounds_toArray, List.set_cons_zero, List.set_cons_succ]
        have k0 := hI.2.2.1.c0
        have k1 := hI.2.2.1.c1
        have k2 := hI.2.2.1.c2
        have k3 := hI.2.2.1.c3
        go_simp
        refine hK.out (tv 4 name 0 qf usf.len df) _ W ?_ hI (Below.refl _ _) rfl
        simp only [tv, frameOf, Act.put, List.setIfInBounds_toArray, List.set_cons_zero, List.set_cons_succ]
      · intro f W hI hd K hK
        simp only [frameOf, Act.put, List.setIfInBounds_toArray, List.set_cons_zero, List.set_cons_succ]
        have k0 := hI.2.2.2.c0
        have k1 := hI.2.2.2.c1
        have k2 := hI.2.2.2.c2
        have k3 := hI.2.2.2.c3
        go_simp
        refine hK.out (tv 4 name 0 qg usg.len dg) _ W ?_ hI (Below.refl _ _) rfl
        simp only [tv, frameOf, Act.put, List.setIfInBounds_toArray, List.set_cons_zero, List.set_cons_succ]
      · intro f W hI hd K hK
        simp only [frameOf, Act.put, List.setIfInBounds_toArray, List.set_cons_zero, List.set_cons_succ]
        have h0 : f 0 = tv 4 name 0 qf usf.len df := hd 0 (by kernel_rfl)
        unfold tv at h0
        have h1 : f 1 = tv 4 name 0 qg usg.len dg := hd 1 (by kernel_rfl)
        unfold tv at h1
        rw [h0, h1]
        go_simp
        refine (compare_any (by have := Ts.twin_size _ _ TWF.out; simp only [Ts.size] at this; omega) OKF.out OKG.out hI.2.2.1.tat hI.2.2.2.tat).mono ?_
        rintro e w' ⟨rfl, hB⟩
        rw [cmp_one TWF.out TWG.out, HX.out]
        refine hK.out (.int .i64 x) _ _ ?_ ⟨hI.1.below hB, hI.2.1.below hB, hI.2.2.1.below hB, hI.2.2.2.below hB⟩ hB rfl
        simp only [frameOf, Act.put, List.setIfInBounds_toArray, List.set_cons_zero, List.set_cons_succ, Nat.zero_add, Nat.reduceAdd, h0, h1]
      · intro f W hI hd K hK
        simp only [frameOf, Act.put, List.setIfInBounds_toArray, List.set_cons_zero, List.set_cons_succ]
        have k0 := hI.1.c0
        have k1 := hI.1.c1
        have k2 := hI.1.c2
        have k3 := hI.1.c3
        go_simp
        refine hK.out (tv ka sa na pa ta.len ca) _ W ?_ hI (Below.refl _ _) rfl
        simp only [tv, frameOf, Act.put, List.setIfInBounds_toArray, List.set_cons_zero, List.set_cons_succ]
      · intro f W hI hd K hK
        simp only [frameOf, Act.put, List.setIfInBounds_toArray, List.set_cons_zero, List.set_cons_succ]
        have k0 := hI.2.1.c0
        have k1 := hI.2.1.c1
        have k2 := hI.2.1.c2
        have k3 := hI.2.1.c3
        go_simp
        refine hK.out (tv kb sb nb pb tb.len cb') _ W ?_ hI (Below.refl _ _) rfl
        simp only [tv, frameOf, Act.put, List.setIfInBounds_toArray, List.set_cons_zero, List.set_cons_succ]
      · intro f W hI hd K hK
        simp only [frameOf, Act.put, List.setIfInBounds_toArray, List.set_cons_zero, List.set_cons_succ]
        have h3 : f 3 = tv ka sa na pa ta.len ca := hd 3 (by kernel_rfl)
        unfold tv at h3
        have h4 : f 4 = tv kb sb nb pb tb.len cb' := hd 4 (by kernel_rfl)
        unfold tv at h4
        rw [h3, h4]
        go_simp
        refine (compare_any (by omega) OKA.out.2.2.2.2.2.1 OKB.out.2.2.2.2.2.1 hI.1.tat hI.2.1.tat).mono ?_
        rintro e w' ⟨rfl, hB⟩
        rw [HX.out]
        refine hK.out (.int .i64 x) _ _ ?_ ⟨hI.1.below hB, hI.2.1.below hB, hI.2.2.1.below hB, hI.2.2.2.below hB⟩ hB rfl
        simp only [frameOf, Act.put, List.setIfInBounds_toArray, List.set_cons_zero, List.set_cons_succ, Nat.zero_add, Nat.reduceAdd, h3, h4]
      · intro f W hI hd K hK
        simp only [frameOf, Act.put, List.setIfInBounds_toArray, List.set_cons_zero, List.set_cons_succ]
        have h2 : f 2 = .int .i64 x := hd 2 (by kernel_rfl)
        have h5 : f 5 = .int .i64 x := hd 5 (by kernel_rfl)
        rw [h2, h5]
        go_simp
        refine hK.out (.bool true) _ W ?_ hI (Below.refl _ _) rfl
        simp only [frameOf, Act.put, List.setIfInBounds_toArray, List.set_cons_zero, List.set_cons_succ, Nat.zero_add, Nat.reduceAdd, h2, h5]
      · intro f W hI hd K hK
        simp only [frameOf, Act.put, List.setIfInBounds_toArray, List.set_cons_zero, List.set_cons_succ]
        have h6 : f 6 = .bool true := hd 6 (by kernel_rfl)
        rw [h6]
        go_simp
        refine hK.out (.bool true) _ W ?_ hI (Below.refl _ _) rfl
        simp only [frameOf, Act.put, List.setIfInBounds_toArray, List.set_cons_zero, List.set_cons_succ, Nat.zero_add, Nat.reduceAdd, h6]
      · intro f W hI hd K hK
        simp only [frameOf, Act.put, List.setIfInBounds_toArray, List.set_cons_zero, List.set_cons_succ]
        have h7 : f 7 = .bool true := hd 7 (by kernel_rfl)
        rw [h7]
        go_simp
        refine hK.out (.string name) _ W ?_ hI (Below.refl _ _) rfl
        simp only [frameOf, Act.put, List.setIfInBounds_toArray, List.set_cons_zero, List.set_cons_succ, Nat.zero_add, Nat.reduceAdd, h7]
      · intro f W hI hd K hK
        simp only [frameOf, Act.put, List.setIfInBounds_toArray, List.set_cons_zero, List.set_cons_succ]
        have h7 : f 7 = .bool true := hd 7 (by kernel_rfl)
        have k0 := hI.1.c0
        have k1 := hI.1.c1
        have k2 := hI.1.c2
        have k3 := hI.1.c3
        rw [h7]
        go_simp
        refine hK.out (tv ka sa na pa ta.len ca) _ W ?_ hI (Below.refl _ _) rfl
        simp only [tv, frameOf, Act.put, List.setIfInBounds_toArray, List.set_cons_zero, List.set_cons_succ, Nat.zero_add, Nat.reduceAdd, h7]
      · intro f W hI hd K hK
        simp only [frameOf, Act.put, List.setIfInBounds_toArray, List.set_cons_zero, List.set_cons_succ]
        have h7 : f 7 = .bool true := hd 7 (by kernel_rfl)
        have k0 := hI.2.1.c0
        have k1 := hI.2.1.c1
        have k2 := hI.2.1.c2
        have k3 := hI.2.1.c3
        rw [h7]
        go_simp
        refine hK.out (tv kb sb nb pb tb.len cb') _ W ?_ hI (Below.refl _ _) rfl
        simp only [tv, frameOf, Act.put, List.setIfInBounds_toArray, List.set_cons_zero, List.set_cons_succ, Nat.zero_add, Nat.reduceAdd, h7]
      · intro f W hI hd K hK
        simp only [frameOf, Act.put, List.setIfInBounds_toArray, List.set_cons_zero, List.set_cons_succ]
        have h7 : f 7 = .bool true := hd 7 (by kernel_rfl)
        have h9 : f 9 = tv ka sa na pa ta.len ca := hd 9 (by kernel_rfl)
        unfold tv at h9
        have h10 : f 10 = tv kb sb nb pb tb.len cb' := hd 10 (by kernel_rfl)
        unfold tv at h10
        rw [h7, h9, h10]
        go_simp
        refine hK.out (.slice (some ⟨W.heap.size, 0, none⟩) 2 2) _ _ ?_ ⟨hI.1.alloc _, hI.2.1.alloc _, hI.2.2.1.alloc _, hI.2.2.2.alloc _⟩ ((Below.refl _ _).alloc (Nat.le_refl _) _) (ListOf.two hI.1.tat hI.2.1.tat _)
        simp only [frameOf, Act.put, List.setIfInBounds_toArray, List.set_cons_zero, List.set_cons_succ, Nat.zero_add, Nat.reduceAdd, h7, h9, h10]
      · intro f W hI hd K hK
        simp only [frameOf, Act.put, List.setIfInBounds_toArray, List.set_cons_zero, List.set_cons_succ]
        have h7 : f 7 = .bool true := hd 7 (by kernel_rfl)
        have h8 : f 8 = .string name := hd 8 (by kernel_rfl)
        obtain ⟨b11, e11, a11⟩ : ListOf (.cons ka sa na pa ca ta (.cons kb sb nb pb cb' tb .nil)) (f 11) W := hd 11 (by kernel_rfl)
        rw [h7, h8, e11]
        go_simp
        refine (F_any name (.cons ka sa na pa ca ta (.cons kb sb nb pb cb' tb .nil)) (by simp only [Ts.size]; omega) OKAB.out W _ _ a11).mono ?_
        rintro e w' ⟨us, p', c', rfl, hat, htw, hok, hcl, hpn, hB⟩
        rw [if_neg (by simp [Ts.len])]
        refine hK.out (tv 4 name 0 p' us.len c') _ _ ?_ ⟨hI.1.below hB, hI.2.1.below hB, hI.2.2.1.below hB, hI.2.2.2.below hB⟩ hB ⟨us, p', c', rfl, hat.at, htw, ⟨by omega, hname, by omega, hcl, hpn, hok, trivial⟩⟩
        simp only [frameOf, Act.put, List.setIfInBounds_toArray, List.set_cons_zero, List.set_cons_succ, Nat.zero_add, Nat.reduceAdd, h7, h8, e11]
      · intro f W hI hd K hK
        simp only [frameOf, Act.put, List.setIfInBounds_toArray, List.set_cons_zero, List.set_cons_succ]
        have h7 : f 7 = .bool true := hd 7 (by kernel_rfl)
        rw [h7]
        go_simp
        refine hK.out (.string name) _ W ?_ hI (Below.refl _ _) rfl
        simp only [frameOf, Act.put, List.setIfInBounds_toArray, List.set_cons_zero, List.set_cons_succ, Nat.zero_add, Nat.reduceAdd, h7]
      · intro f W hI hd K hK
        simp only [frameOf, Act.put, List.setIfInBounds_toArray, List.set_cons_zero, List.set_cons_succ]
        have h7 : f 7 = .bool true := hd 7 (by kernel_rfl)
        have k0 := hI.2.1.c0
        have k1 := hI.2.1.c1
        have k2 := hI.2.1.c2
        have k3 := hI.2.1.c3
        rw [h7]
        go_simp
        refine hK.out (tv kb sb nb pb tb.len cb') _ W ?_ hI (Below.refl _ _) rfl
        simp only [tv, frameOf, Act.put, List.setIfInBounds_toArray, List.set_cons_zero, List.set_cons_succ, Nat.zero_add, Nat.reduceAdd, h7]
      · intro f W hI hd K hK
        simp only [frameOf, Act.put, List.setIfInBounds_toArray, List.set_cons_zero, List.set_cons_succ]
        have h7 : f 7 = .bool true := hd 7 (by kernel_rfl)
        have h14 : f 14 = tv kb sb nb pb tb.len cb' := hd 14 (by kernel_rfl)
        unfold tv at h14
        rw [h7, h14]
        go_simp
        refine hK.out (.slice (some ⟨W.heap.size, 0, none⟩) 1 1) _ _ ?_ ⟨hI.1.alloc _, hI.2.1.alloc _, hI.2.2.1.alloc _, hI.2.2.2.alloc _⟩ ((Below.refl _ _).alloc (Nat.le_refl _) _) (ListOf.one hI.2.1.tat _)
        simp only [frameOf, Act.put, List.setIfInBounds_toArray, List.set_cons_zero, List.set_cons_succ, Nat.zero_add, Nat.reduceAdd, h7, h14]
      · intro f W hI hd K hK
        simp only [frameOf, Act.put, List.setIfInBounds_toArray, List.set_cons_zero, List.set_cons_succ]
        have h7 : f 7 = .bool true := hd 7 (by kernel_rfl)
        have h13 : f 13 = .string name := hd 13 (by kernel_rfl)
        obtain ⟨b15, e15, a15⟩ : ListOf (.cons kb sb nb pb cb' tb .nil) (f 15) W := hd 15 (by kernel_rfl)
        rw [h7, h13, e15]
        go_simp
        refine (F_any name (.cons kb sb nb pb cb' tb .nil) (by simp only [Ts.size]; omega) OKB.out W _ _ a15).mono ?_
        rintro e w' ⟨us, p', c', rfl, hat, htw, hok, hcl, hpn, hB⟩
        rw [if_neg (by simp [Ts.len])]
        refine hK.out (tv 4 name 0 p' us.len c') _ _ ?_ ⟨hI.1.below hB, hI.2.1.below hB, hI.2.2.1.below hB, hI.2.2.2.below hB⟩ hB ⟨us, p', c', rfl, hat.at, htw, ⟨by omega, hname, by omega, hcl, hpn, hok, trivial⟩⟩
        simp only [frameOf, Act.put, List.setIfInBounds_toArray, List.set_cons_zero, List.set_cons_succ, Nat.zero_add, Nat.reduceAdd, h7, h13, e15]
      · intro f W hI hd K hK
        simp only [frameOf, Act.put, List.setIfInBounds_toArray, List.set_cons_zero, List.set_cons_succ]
        have h7 : f 7 = .bool true := hd 7 (by kernel_rfl)
        obtain ⟨u12, q12, d12, e12, a12, t12, o12⟩ : FOf name (.cons ka sa na pa ca ta (.cons kb sb nb pb cb' tb .nil)) (f 12) W := hd 12 (by kernel_rfl)
        unfold tv at e12
        obtain ⟨u16, q16, d16, e16, a16, t16, o16⟩ : FOf name (.cons kb sb nb pb cb' tb .nil) (f 16) W := hd 16 (by kernel_rfl)
        unfold tv at e16
        rw [h7, e12, e16]
        go_simp
        refine (compare_any (by have := Ts.twin_size _ _ t12; simp only [Ts.size] at this; omega) o12.2.2.2.2.2.1 o16.2.2.2.2.2.1 a12 a16).mono ?_
        rintro e w' ⟨rfl, hB⟩
        rw [cmp_more t12 t16]
        refine hK.out (.int .i64 1) _ _ ?_ ⟨hI.1.below hB, hI.2.1.below hB, hI.2.2.1.below hB, hI.2.2.2.below hB⟩ hB rfl
        simp only [frameOf, Act.put, List.setIfInBounds_toArray, List.set_cons_zero, List.set_cons_succ, Nat.zero_add, Nat.reduceAdd, h7, e12, e16]
      · intro f W hI hd K hK
        simp only [frameOf, Act.put, List.setIfInBounds_toArray, List.set_cons_zero, List.set_cons_succ]
        have h7 : f 7 = .bool true := hd 7 (by kernel_rfl)
        have h17 : f 17 = .int .i64 1 := hd 17 (by kernel_rfl)
        rw [h7, h17]
        go_simp
        refine hK.out (.bool true) _ W ?_ hI (Below.refl _ _) rfl
        simp only [frameOf, Act.put, List.setIfInBounds_toArray, List.set_cons_zero, List.set_cons_succ, Nat.zero_add, Nat.reduceAdd, h7, h17]
      · intro f W hI hd K hK
        simp only [frameOf, Act.put, List.setIfInBounds_toArray, List.set_cons_zero, List.set_cons_succ]
        have h7 : f 7 = .bool true := hd 7 (by kernel_rfl)
        have h18 : f 18 = .bool true := hd 18 (by kernel_rfl)
        rw [h7, h18]
        go_simp
        refine hK.out (.bool true) _ W ?_ hI (Below.refl _ _) rfl
        simp only [frameOf, Act.put, List.setIfInBounds_toArray, List.set_cons_zero, List.set_cons_succ, Nat.zero_add, Nat.reduceAdd, h7, h18]
      · intro f W hI hd K hK
        simp only [frameOf, Act.put, List.setIfInBounds_toArray, List.set_cons_zero, List.set_cons_succ]
        have h19 : f 19 = .bool true := hd 19 (by kernel_rfl)
        rw [h19]
        go_simp
        refine hK.out (.bool true) _ W ?_ hI (Below.refl _ _) rfl
        simp only [frameOf, Act.put, List.setIfInBounds_toArray, List.set_cons_zero, List.set_cons_succ, Nat.zero_add, Nat.reduceAdd, h19]
      · intro f W hI hd K hK
        simp only [frameOf, Act.put, List.setIfInBounds_toArray, List.set_cons_zero, List.set_cons_succ]
        have h20 : f 20 = .bool true := hd 20 (by kernel_rfl)
        rw [h20]
        go_simp
        refine hK.out (.string name) _ W ?_ hI (Below.refl _ _) rfl
        simp only [frameOf, Act.put, List.setIfInBounds_toArray, List.set_cons_zero, List.set_cons_succ, Nat.zero_add, Nat.reduceAdd, h20]
      · intro f W hI hd K hK
        simp only [frameOf, Act.put, List.setIfInBounds_toArray, List.set_cons_zero, List.set_cons_succ]
        have h20 : f 20 = .bool true := hd 20 (by kernel_rfl)
        have h21 : f 21 = .string name := hd 21 (by kernel_rfl)
        rw [h20, h21]
        go_simp
        refine (A_any name W).mono ?_
        rintro e w' ⟨rfl, hB⟩
        refine hK.out (tv 3 name 0 none 0 0) _ _ ?_ ⟨hI.1.below hB, hI.2.1.below hB, hI.2.2.1.below hB, hI.2.2.2.below hB⟩ hB rfl
        simp only [frameOf, Act.put, List.setIfInBounds_toArray, List.set_cons_zero, List.set_cons_succ, Nat.zero_add, Nat.reduceAdd, h20, h21]
      · intro f W hI hd K hK
        simp only [frameOf, Act.put, List.setIfInBounds_toArray, List.set_cons_zero, List.set_cons_succ]
        have h20 : f 20 = .bool true := hd 20 (by kernel_rfl)
        have k0 := hI.2.2.1.c0
        have k1 := hI.2.2.1.c1
        have k2 := hI.2.2.1.c2
        have k3 := hI.2.2.1.c3
        rw [h20]
        go_simp
        refine hK.out (tv 4 name 0 qf usf.len df) _ W ?_ hI (Below.refl _ _) rfl
        simp only [tv, frameOf, Act.put, List.setIfInBounds_toArray, List.set_cons_zero, List.set_cons_succ, Nat.zero_add, Nat.reduceAdd, h20]
      · intro f W hI hd K hK
        simp only [frameOf, Act.put, List.setIfInBounds_toArray, List.set_cons_zero, List.set_cons_succ]
        have h20 : f 20 = .bool true := hd 20 (by kernel_rfl)
        have h22 : f 22 = tv 3 name 0 none 0 0 := hd 22 (by kernel_rfl)
        unfold tv at h22
        have h23 : f 23 = tv 4 name 0 qf usf.len df := hd 23 (by kernel_rfl)
        unfold tv at h23
        rw [h20, h22, h23]
        go_simp
        refine (compare_any (ts := .nil) (by simp [Ts.size]) trivial OKF.out ⟨0, 0, .inl rfl, trivial⟩ hI.2.2.1.tat).mono ?_
        rintro e w' ⟨rfl, hB⟩
        rw [cmp_atom]
        refine hK.out (.int .i64 (-1)) _ _ ?_ ⟨hI.1.below hB, hI.2.1.below hB, hI.2.2.1.below hB, hI.2.2.2.below hB⟩ hB rfl
        simp only [frameOf, Act.put, List.setIfInBounds_toArray, List.set_cons_zero, List.set_cons_succ, Nat.zero_add, Nat.reduceAdd, h20, h22, h23]
      · intro f W hI hd K hK
        simp only [frameOf, Act.put, List.setIfInBounds_toArray, List.set_cons_zero, List.set_cons_succ]
        have h20 : f 20 = .bool true := hd 20 (by kernel_rfl)
        have h24 : f 24 = .int .i64 (-1) := hd 24 (by kernel_rfl)
        rw [h20, h24]
        go_simp
        refine hK.out (.bool true) _ W ?_ hI (Below.refl _ _) rfl
        simp only [frameOf, Act.put, List.setIfInBounds_toArray, List.set_cons_zero, List.set_cons_succ, Nat.zero_add, Nat.reduceAdd, h20, h24]
      · intro f W hI hd K hK
        simp only [frameOf, Act.put, List.setIfInBounds_toArray, List.set_cons_zero, List.set_cons_succ]
        have h20 : f 20 = .bool true := hd 20 (by kernel_rfl)
        have h25 : f 25 = .bool true := hd 25 (by kernel_rfl)
        rw [h20, h25]
        go_simp
        refine hK.out (.bool true) _ W ?_ hI (Below.refl _ _) rfl
        simp only [frameOf, Act.put, List.setIfInBounds_toArray, List.set_cons_zero, List.set_cons_succ, Nat.zero_add, Nat.reduceAdd, h20, h25]
      · intro f W hI hd K hK
        simp only [frameOf, Act.put, List.setIfInBounds_toArray, List.set_cons_zero, List.set_cons_succ]
        have h26 : f 26 = .bool true := hd 26 (by kernel_rfl)
        rw [h26]
        go_simp
        refine hK.out (.bool true) _ W ?_ hI (Below.refl _ _) rfl
        simp only [frameOf, Act.put, List.setIfInBounds_toArray, List.set_cons_zero, List.set_cons_succ, Nat.zero_add, Nat.reduceAdd, h26]
      · intro f W hI hd K hK
        simp only [frameOf, Act.put, List.setIfInBounds_toArray, List.set_cons_zero, List.set_cons_succ]
        have h27 : f 27 = .bool true := hd 27 (by kernel_rfl)
        rw [h27]
        go_simp
        refine hK.out (.string name) _ W ?_ hI (Below.refl _ _) rfl
        simp only [frameOf, Act.put, List.setIfInBounds_toArray, List.set_cons_zero, List.set_cons_succ, Nat.zero_add, Nat.reduceAdd, h27]
      · intro f W hI hd K hK
        simp only [frameOf, Act.put, List.setIfInBounds_toArray, List.set_cons_zero, List.set_cons_succ]
        have h27 : f 27 = .bool true := hd 27 (by kernel_rfl)
        have k0 := hI.1.c0
        have k1 := hI.1.c1
        have k2 := hI.1.c2
        have k3 := hI.1.c3
        rw [h27]
        go_simp
        refine hK.out (tv ka sa na pa ta.len ca) _ W ?_ hI (Below.refl _ _) rfl
        simp only [tv, frameOf, Act.put, List.setIfInBounds_toArray, List.set_cons_zero, List.set_cons_succ, Nat.zero_add, Nat.reduceAdd, h27]
      · intro f W hI hd K hK
        simp only [frameOf, Act.put, List.setIfInBounds_toArray, List.set_cons_zero, List.set_cons_succ]
        have h27 : f 27 = .bool true := hd 27 (by kernel_rfl)
        have k0 := hI.2.1.c0
        have k1 := hI.2.1.c1
        have k2 := hI.2.1.c2
        have k3 := hI.2.1.c3
        rw [h27]
        go_simp
        refine hK.out (tv kb sb nb pb tb.len cb') _ W ?_ hI (Below.refl _ _) rfl
        simp only [tv, frameOf, Act.put, List.setIfInBounds_toArray, List.set_cons_zero, List.set_cons_succ, Nat.zero_add, Nat.reduceAdd, h27]
      · intro f W hI hd K hK
        simp only [frameOf, Act.put, List.setIfInBounds_toArray, List.set_cons_zero, List.set_cons_succ]
        have h27 : f 27 = .bool true := hd 27 (by kernel_rfl)
        have h29 : f 29 = tv ka sa na pa ta.len ca := hd 29 (by kernel_rfl)
        unfold tv at h29
        have h30 : f 30 = tv kb sb nb pb tb.len cb' := hd 30 (by kernel_rfl)
        unfold tv at h30
        rw [h27, h29, h30]
        go_simp
        refine hK.out (.slice (some ⟨W.heap.size, 0, none⟩) 2 2) _ _ ?_ ⟨hI.1.alloc _, hI.2.1.alloc _, hI.2.2.1.alloc _, hI.2.2.2.alloc _⟩ ((Below.refl _ _).alloc (Nat.le_refl _) _) (ListOf.two hI.1.tat hI.2.1.tat _)
        simp only [frameOf, Act.put, List.setIfInBounds_toArray, List.set_cons_zero, List.set_cons_succ, Nat.zero_add, Nat.reduceAdd, h27, h29, h30]
      · intro f W hI hd K hK
        simp only [frameOf, Act.put, List.setIfInBounds_toArray, List.set_cons_zero, List.set_cons_succ]
        have h27 : f 27 = .bool true := hd 27 (by kernel_rfl)
        have h28 : f 28 = .string name := hd 28 (by kernel_rfl)
        obtain ⟨b31, e31, a31⟩ : ListOf (.cons ka sa na pa ca ta (.cons kb sb nb pb cb' tb .nil)) (f 31) W := hd 31 (by kernel_rfl)
        rw [h27, h28, e31]
        go_simp
        refine (F_any name (.cons ka sa na pa ca ta (.cons kb sb nb pb cb' tb .nil)) (by simp only [Ts.size]; omega) OKAB.out W _ _ a31).mono ?_
        rintro e w' ⟨us, p', c', rfl, hat, htw, hok, hcl, hpn, hB⟩
        rw [if_neg (by simp [Ts.len])]
        refine hK.out (tv 4 name 0 p' us.len c') _ _ ?_ ⟨hI.1.below hB, hI.2.1.below hB, hI.2.2.1.below hB, hI.2.2.2.below hB⟩ hB ⟨us, p', c', rfl, hat.at, htw, ⟨by omega, hname, by omega, hcl, hpn, hok, trivial⟩⟩
        simp only [frameOf, Act.put, List.setIfInBounds_toArray, List.set_cons_zero, List.set_cons_succ, Nat.zero_add, Nat.reduceAdd, h27, h28, e31]
      · intro f W hI hd K hK
        simp only [frameOf, Act.put, List.setIfInBounds_toArray, List.set_cons_zero, List.set_cons_succ]
        have h27 : f 27 = .bool true := hd 27 (by kernel_rfl)
        rw [h27]
        go_simp
        refine hK.out (.string name) _ W ?_ hI (Below.refl _ _) rfl
        simp only [frameOf, Act.put, List.setIfInBounds_toArray, List.set_cons_zero, List.set_cons_succ, Nat.zero_add, Nat.reduceAdd, h27]
      · intro f W hI hd K hK
        simp only [frameOf, Act.put, List.setIfInBounds_toArray, List.set_cons_zero, List.set_cons_succ]
        have h27 : f 27 = .bool true := hd 27 (by kernel_rfl)
        have k0 := hI.1.c0
        have k1 := hI.1.c1
        have k2 := hI.1.c2
        have k3 := hI.1.c3
        rw [h27]
        go_simp
        refine hK.out (tv ka sa na pa ta.len ca) _ W ?_ hI (Below.refl _ _) rfl
        simp only [tv, frameOf, Act.put, List.setIfInBounds_toArray, List.set_cons_zero, List.set_cons_succ, Nat.zero_add, Nat.reduceAdd, h27]
      · intro f W hI hd K hK
        simp only [frameOf, Act.put, List.setIfInBounds_toArray, List.set_cons_zero, List.set_cons_succ]
        have h27 : f 27 = .bool true := hd 27 (by kernel_rfl)
        have k0 := hI.1.c0
        have k1 := hI.1.c1
        have k2 := hI.1.c2
        have k3 := hI.1.c3
        rw [h27]
        go_simp
        refine hK.out (tv ka sa na pa ta.len ca) _ W ?_ hI (Below.refl _ _) rfl
        simp only [tv, frameOf, Act.put, List.setIfInBounds_toArray, List.set_cons_zero, List.set_cons_succ, Nat.zero_add, Nat.reduceAdd, h27]
      · intro f W hI hd K hK
        simp only [frameOf, Act.put, List.setIfInBounds_toArray, List.set_cons_zero, List.set_cons_succ]
        have h27 : f 27 = .bool true := hd 27 (by kernel_rfl)
        have h34 : f 34 = tv ka sa na pa ta.len ca := hd 34 (by kernel_rfl)
        unfold tv at h34
        have h35 : f 35 = tv ka sa na pa ta.len ca := hd 35 (by kernel_rfl)
        unfold tv at h35
        rw [h27, h34, h35]
        go_simp
        refine hK.out (.slice (some ⟨W.heap.size, 0, none⟩) 2 2) _ _ ?_ ⟨hI.1.alloc _, hI.2.1.alloc _, hI.2.2.1.alloc _, hI.2.2.2.alloc _⟩ ((Below.refl _ _).alloc (Nat.le_refl _) _) (ListOf.two hI.1.tat hI.1.tat _)
        simp only [frameOf, Act.put, List.setIfInBounds_toArray, List.set_cons_zero, List.set_cons_succ, Nat.zero_add, Nat.reduceAdd, h27, h34, h35]
      · intro f W hI hd K hK
        simp only [frameOf, Act.put, List.setIfInBounds_toArray, List.set_cons_zero, List.set_cons_succ]
        have h27 : f 27 = .bool true := hd 27 (by kernel_rfl)
        have h33 : f 33 = .string name := hd 33 (by kernel_rfl)
        obtain ⟨b36, e36, a36⟩ : ListOf (.cons ka sa na pa ca ta (.cons ka sa na pa ca ta .nil)) (f 36) W := hd 36 (by kernel_rfl)
        rw [h27, h33, e36]
        go_simp
        refine (F_any name (.cons ka sa na pa ca ta (.cons ka sa na pa ca ta .nil)) (by simp only [Ts.size]; omega) OKAA.out W _ _ a36).mono ?_
        rintro e w' ⟨us, p', c', rfl, hat, htw, hok, hcl, hpn, hB⟩
        rw [if_neg (by simp [Ts.len])]
        refine hK.out (tv 4 name 0 p' us.len c') _ _ ?_ ⟨hI.1.below hB, hI.2.1.below hB, hI.2.2.1.below hB, hI.2.2.2.below hB⟩ hB ⟨us, p', c', rfl, hat.at, htw, ⟨by omega, hname, by omega, hcl, hpn, hok, trivial⟩⟩
        simp only [frameOf, Act.put, List.setIfInBounds_toArray, List.set_cons_zero, List.set_cons_succ, Nat.zero_add, Nat.reduceAdd, h27, h33, e36]
      · intro f W hI hd K hK
        simp only [frameOf, Act.put, List.setIfInBounds_toArray, List.set_cons_zero, List.set_cons_succ]
        have h27 : f 27 = .bool true := hd 27 (by kernel_rfl)
        obtain ⟨u32, q32, d32, e32, a32, t32, o32⟩ : FOf name (.cons ka sa na pa ca ta (.cons kb sb nb pb cb' tb .nil)) (f 32) W := hd 32 (by kernel_rfl)
        unfold tv at e32
        obtain ⟨u37, q37, d37, e37, a37, t37, o37⟩ : FOf name (.cons ka sa na pa ca ta (.cons ka sa na pa ca ta .nil)) (f 37) W := hd 37 (by kernel_rfl)
        unfold tv at e37
        rw [h27, e32, e37]
        go_simp
        refine (compare_any (by have := Ts.twin_size _ _ t32; simp only [Ts.size] at this; omega) o32.2.2.2.2.2.1 o37.2.2.2.2.2.1 a32 a37).mono ?_
        rintro e w' ⟨rfl, hB⟩
        rw [cmp_two t32 t37, HY.out]
        refine hK.out (.int .i64 y) _ _ ?_ ⟨hI.1.below hB, hI.2.1.below hB, hI.2.2.1.below hB, hI.2.2.2.below hB⟩ hB rfl
        simp only [frameOf, Act.put, List.setIfInBounds_toArray, List.set_cons_zero, List.set_cons_succ, Nat.zero_add, Nat.reduceAdd, h27, e32, e37]
      · intro f W hI hd K hK
        simp only [frameOf, Act.put, List.setIfInBounds_toArray, List.set_cons_zero, List.set_cons_succ]
        have h27 : f 27 = .bool true := hd 27 (by kernel_rfl)
        have k0 := hI.2.1.c0
        have k1 := hI.2.1.c1
        have k2 := hI.2.1.c2
        have k3 := hI.2.1.c3
        rw [h27]
        go_simp
        refine hK.out (tv kb sb nb pb tb.len cb') _ W ?_ hI (Below.refl _ _) rfl
        simp only [tv, frameOf, Act.put, List.setIfInBounds_toArray, List.set_cons_zero, List.set_cons_succ, Nat.zero_add, Nat.reduceAdd, h27]
      · intro f W hI hd K hK
        simp only [frameOf, Act.put, List.setIfInBounds_toArray, List.set_cons_zero, List.set_cons_succ]
        have h27 : f 27 = .bool true := hd 27 (by kernel_rfl)
        have k0 := hI.1.c0
        have k1 := hI.1.c1
        have k2 := hI.1.c2
        have k3 := hI.1.c3
        rw [h27]
        go_simp
        refine hK.out (tv ka sa na pa ta.len ca) _ W ?_ hI (Below.refl _ _) rfl
        simp only [tv, frameOf, Act.put, List.setIfInBounds_toArray, List.set_cons_zero, List.set_cons_succ, Nat.zero_add, Nat.reduceAdd, h27]
      · intro f W hI hd K hK
        simp only [frameOf, Act.put, List.setIfInBounds_toArray, List.set_cons_zero, List.set_cons_succ]
        have h27 : f 27 = .bool true := hd 27 (by kernel_rfl)
        have h39 : f 39 = tv kb sb nb pb tb.len cb' := hd 39 (by kernel_rfl)
        unfold tv at h39
        have h40 : f 40 = tv ka sa na pa ta.len ca := hd 40 (by kernel_rfl)
        unfold tv at h40
        rw [h27, h39, h40]
        go_simp
        refine (compare_any (by omega) OKB.out.2.2.2.2.2.1 OKA.out.2.2.2.2.2.1 hI.2.1.tat hI.1.tat).mono ?_
        rintro e w' ⟨rfl, hB⟩
        rw [HY.out]
        refine hK.out (.int .i64 y) _ _ ?_ ⟨hI.1.below hB, hI.2.1.below hB, hI.2.2.1.below hB, hI.2.2.2.below hB⟩ hB rfl
        simp only [frameOf, Act.put, List.setIfInBounds_toArray, List.set_cons_zero, List.set_cons_succ, Nat.zero_add, Nat.reduceAdd, h27, h39, h40]
      · intro f W hI hd K hK
        simp only [frameOf, Act.put, List.setIfInBounds_toArray, List.set_cons_zero, List.set_cons_succ]
        have h27 : f 27 = .bool true := hd 27 (by kernel_rfl)
        have h38 : f 38 = .int .i64 y := hd 38 (by kernel_rfl)
        have h41 : f 41 = .int .i64 y := hd 41 (by kernel_rfl)
        rw [h27, h38, h41]
        go_simp
        refine hK.out (.bool true) _ W ?_ hI (Below.refl _ _) rfl
        simp only [frameOf, Act.put, List.setIfInBounds_toArray, List.set_cons_zero, List.set_cons_succ, Nat.zero_add, Nat.reduceAdd, h27, h38, h41]
      · intro f W hI hd K hK
        simp only [frameOf, Act.put, List.setIfInBounds_toArray, List.set_cons_zero, List.set_cons_succ]
        have h27 : f 27 = .bool true := hd 27 (by kernel_rfl)
        have h42 : f 42 = .bool true := hd 42 (by kernel_rfl)
        rw [h27, h42]
        go_simp
        refine hK.out (.bool true) _ W ?_ hI (Below.refl _ _) rfl
        simp only [frameOf, Act.put, List.setIfInBounds_toArray, List.set_cons_zero, List.set_cons_succ, Nat.zero_add, Nat.reduceAdd, h27, h42]
      · intro f W hI hd K hK
        simp only [frameOf, Act.put, List.setIfInBounds_toArray, List.set_cons_zero, List.set_cons_succ]
        have h43 : f 43 = .bool true := hd 43 (by kernel_rfl)
        rw [h43]
        go_simp
        refine hK.out (.bool true) _ W ?_ hI (Below.refl _ _) rfl
        simp only [frameOf, Act.put, List.setIfInBounds_toArray, List.set_cons_zero, List.set_cons_succ, Nat.zero_add, Nat.reduceAdd, h43]
      · intro f W hI hd K hK
        simp only [frameOf, Act.put, List.setIfInBounds_toArray, List.set_cons_zero, List.set_cons_succ]
        have h44 : f 44 = .bool true := hd 44 (by kernel_rfl)
        rw [h44]
        go_simp
        refine (wakes2_any _).mono ?_
        rintro e w' ⟨rfl, hB⟩
        refine hK.out (.bool true) _ _ ?_ ⟨hI.1.below hB, hI.2.1.below hB, hI.2.2.1.below hB, hI.2.2.2.below hB⟩ hB rfl
        simp only [frameOf, Act.put, List.setIfInBounds_toArray, List.set_cons_zero, List.set_cons_succ, Nat.zero_add, Nat.reduceAdd, h44]
      · intro f W hI hd K hK
        simp only [frameOf, Act.put, List.setIfInBounds_toArray, List.set_cons_zero, List.set_cons_succ]
        have h44 : f 44 = .bool true := hd 44 (by kernel_rfl)
        have h45 : f 45 = .bool true := hd 45 (by kernel_rfl)
        rw [h44, h45]
        go_simp
        refine hK.out (.bool true) _ W ?_ hI (Below.refl _ _) rfl
        simp only [frameOf, Act.put, List.setIfInBounds_toArray, List.set_cons_zero, List.set_cons_succ, Nat.zero_add, Nat.reduceAdd, h44, h45]
      · intro f W hI hd K hK
        simp only [frameOf, Act.put, List.setIfInBounds_toArray, List.set_cons_zero, List.set_cons_succ]
        have h46 : f 46 = .bool true := hd 46 (by kernel_rfl)
        rw [h46]
        go_simp
        refine hK.out (.bool true) _ W ?_ hI (Below.refl _ _) rfl
        simp only [frameOf, Act.put, List.setIfInBounds_toArray, List.set_cons_zero, List.set_cons_succ, Nat.zero_add, Nat.reduceAdd, h46]
    case done =>
      intro f W hI hF
      have h47 : f 47 = .bool true := hF 47 (by decide)
      simp only [frameOf, Act.put, List.setIfInBounds_toArray, List.set_cons_zero, List.set_cons_succ]
      rw [h47]
      clear hF h47 TA TB TF TG
      have BB := Lib.hid hI.1.B
      clear hI
      go_wp2
      go_ret
      exact ⟨rfl, BB.out⟩
end Go.Proofs.Ytlhclblekpngnaa
