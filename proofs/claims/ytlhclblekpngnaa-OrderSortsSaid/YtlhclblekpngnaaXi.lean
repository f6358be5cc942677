/-
  Layer 2: terms whose order is known. (Written by gen_xi.py.)
-/
import Derived.Test.YtlhclblekpngnaaXh
import Derived.Test.YtlhclblekpngnaaTl
import Derived.Test.YtlhclblekpngnaaTt
namespace Go.Proofs.Ytlhclblekpngnaa
open Go.RowKit

theorem twin_head {us : Ts} {k : Int} {s : ByteArray} {n : Int} {p : Option Addr} {c : Nat} {ts r : Ts} (h : Ts.twin us (.cons k s n p c ts r)) : ∃ q d v u, us = .cons k s n q d v u ∧ Ts.twin v ts ∧ Ts.twin u r := by
  cases us with
  | nil => exact h.elim
  | cons k' s' n' q d v u =>
    obtain ⟨rfl, rfl, rfl, h1, h2⟩ := h
    exact ⟨q, d, v, u, rfl, h1, h2⟩

theorem twin_nil {us : Ts} (h : Ts.twin us .nil) : us = .nil := by
  cases us with
  | nil => rfl
  | cons => exact h.elim

theorem twin5 {us : Ts} {s1 s2 s3 : ByteArray} {p1 p2 p3 p4 p5 : Option Addr} {c1 c2 c3 c4 c5 : Nat} {ka kb : Ts}
    (h : Ts.twin us (.cons 4 s1 0 p1 c1 ka (.cons 4 s2 0 p2 c2 kb (.cons 3 s3 0 p3 c3 .nil (.cons 2 ⟨#[]⟩ 7 p4 c4 .nil (.cons 1 ⟨#[]⟩ 9 p5 c5 .nil .nil)))))) :
    ∃ q1 d1 k1 q2 d2 k2 q3 d3 q4 d4 q5 d5, us = .cons 4 s1 0 q1 d1 k1 (.cons 4 s2 0 q2 d2 k2 (.cons 3 s3 0 q3 d3 .nil (.cons 2 ⟨#[]⟩ 7 q4 d4 .nil (.cons 1 ⟨#[]⟩ 9 q5 d5 .nil .nil)))) ∧ k1.len = ka.len ∧ k2.len = kb.len := by
  obtain ⟨q1, d1, k1, u1, rfl, t1, h1⟩ := twin_head h
  obtain ⟨q2, d2, k2, u2, rfl, t2, h2⟩ := twin_head h1
  obtain ⟨q3, d3, k3, u3, rfl, t3, h3⟩ := twin_head h2
  obtain ⟨q4, d4, k4, u4, rfl, t4, h4⟩ := twin_head h3
  obtain ⟨q5, d5, k5, u5, rfl, t5, h5⟩ := twin_head h4
  obtain rfl := twin_nil t3
  obtain rfl := twin_nil t4
  obtain rfl := twin_nil t5
  obtain rfl := twin_nil h5
  exact ⟨q1, d1, k1, q2, d2, k2, q3, d3, q4, d4, q5, d5, rfl, Ts.twin_len _ _ t1, Ts.twin_len _ _ t2⟩

set_option maxRecDepth 100000 in
set_option maxHeartbeats 8000000 in
theorem wakes2_any (w : World) : Calls Try.prog 33 #[] w fun e w' => e = .returned (.bool true) ∧ Below w.heap.size w w' := by
  have nilat : ∀ W : World, Ts.At W none .nil := fun _ => ⟨0, 0, .inl rfl, trivial⟩
  have BW : Below w.heap.size w w := Below.refl _ _
  go_enter Try.func33, Try.ntmps33
  go_wp2_with fail
  refine (A_any ⟨#[97]⟩ _).mono ?_
  rintro e w1 ⟨rfl, hB⟩
  unfold tv
  replace BW := BW.trans (hB.mono BW.size)
  clear hB
  go_wp2_with fail
  refine (A_any ⟨#[98]⟩ _).mono ?_
  rintro e w2 ⟨rfl, hB⟩
  unfold tv
  replace BW := BW.trans (hB.mono BW.size)
  clear hB
  go_wp2_with fail
  obtain ⟨W3, hW3, hsW3, hB, hcW3⟩ := box1 w2 #[Value.int IntKind.u8 3, Value.string { data := #[97] }, Value.int IntKind.i64 0, Value.slice none 0 0, Value.int IntKind.u8 3, Value.string { data := #[98] }, Value.int IntKind.i64 0, Value.slice none 0 0] 24
  rw [← hW3]
  have ZW3 := Lib.hid hW3
  have CW3 := Lib.hid hcW3
  clear hW3 hsW3 hcW3
  replace BW := BW.trans (hB.mono BW.size)
  clear hB
  refine (F_any ⟨#[102]⟩ (.cons 3 ⟨#[97]⟩ 0 none 0 .nil (.cons 3 ⟨#[98]⟩ 0 none 0 .nil .nil)) (by simp [Ts.size]) (by simp [Ts.ok, Ts.len, ByteArray.size]) W3 _ 2 (lies_two rfl CW3.out (nilat _) (nilat _))).mono ?_
  rintro e w4 ⟨us1, p1, c1, rfl, hat, htw, hok, hcl1, hpn1, hB⟩
  rw [if_neg (by simp [Ts.len])]
  unfold tv
  replace BW := BW.trans (hB.mono BW.size)
  clear hB
  have AT1 := Lib.hid hat.at
  have TW1 := Lib.hid htw
  have OK1 := Lib.hid hok
  have LN1 : Hid (us1.len = 2) := Lib.hid (Ts.twin_len _ _ htw)
  have SZ1 : Hid (us1.size = 2) := Lib.hid (Ts.twin_size _ _ htw)
  clear hat htw hok
  go_wp2_with fail
  refine (A_any ⟨#[97]⟩ _).mono ?_
  rintro e w5 ⟨rfl, hB⟩
  unfold tv
  replace BW := BW.trans (hB.mono BW.size)
  replace AT1 := Lib.hid (AT1.out.below hB)
  clear hB
  go_wp2_with fail
  obtain ⟨W6, hW6, hsW6, hB, hcW6⟩ := box1 w5 #[Value.int IntKind.u8 3, Value.string { data := #[97] }, Value.int IntKind.i64 0, Value.slice none 0 0] 24
  rw [← hW6]
  have ZW6 := Lib.hid hW6
  have CW6 := Lib.hid hcW6
  clear hW6 hsW6 hcW6
  replace BW := BW.trans (hB.mono BW.size)
  replace AT1 := Lib.hid (AT1.out.below hB)
  clear hB
  refine (F_any ⟨#[103]⟩ (.cons 3 ⟨#[97]⟩ 0 none 0 .nil .nil) (by simp [Ts.size]) (by simp [Ts.ok, Ts.len, ByteArray.size]) W6 _ 1 (lies_one rfl CW6.out (nilat _))).mono ?_
  rintro e w7 ⟨us2, p2, c2, rfl, hat, htw, hok, hcl2, hpn2, hB⟩
  rw [if_neg (by simp [Ts.len])]
  unfold tv
  replace BW := BW.trans (hB.mono BW.size)
  replace AT1 := Lib.hid (AT1.out.below hB)
  clear hB
  have AT2 := Lib.hid hat.at
  have TW2 := Lib.hid htw
  have OK2 := Lib.hid hok
  have LN2 : Hid (us2.len = 1) := Lib.hid (Ts.twin_len _ _ htw)
  have SZ2 : Hid (us2.size = 1) := Lib.hid (Ts.twin_size _ _ htw)
  clear hat htw hok
  go_wp2_with fail
  refine (A_any ⟨#[97]⟩ _).mono ?_
  rintro e w8 ⟨rfl, hB⟩
  unfold tv
  replace BW := BW.trans (hB.mono BW.size)
  replace AT1 := Lib.hid (AT1.out.below hB)
  replace AT2 := Lib.hid (AT2.out.below hB)
  clear hB
  go_wp2_with fail
  refine (I_any 7 _).mono ?_
  rintro e w9 ⟨rfl, hB⟩
  unfold tv
  replace BW := BW.trans (hB.mono BW.size)
  replace AT1 := Lib.hid (AT1.out.below hB)
  replace AT2 := Lib.hid (AT2.out.below hB)
  clear hB
  go_wp2_with fail
  refine (V_any 9 _).mono ?_
  rintro e w10 ⟨rfl, hB⟩
  unfold tv
  replace BW := BW.trans (hB.mono BW.size)
  replace AT1 := Lib.hid (AT1.out.below hB)
  replace AT2 := Lib.hid (AT2.out.below hB)
  clear hB
  go_wp2_with fail
  obtain ⟨W11, hW11, hsW11, hB, hcW11⟩ := box1 w10 #[Value.int IntKind.u8 4, Value.string { data := #[102] }, Value.int IntKind.i64 0, Value.slice p1 us1.len c1, Value.int IntKind.u8 4, Value.string { data := #[103] }, Value.int IntKind.i64 0, Value.slice p2 us2.len c2, Value.int IntKind.u8 3, Value.string { data := #[97] }, Value.int IntKind.i64 0, Value.slice none 0 0, Value.int IntKind.u8 2, Value.string { data := #[] }, Value.int IntKind.i64 7, Value.slice none 0 0, Value.int IntKind.u8 1, Value.string { data := #[] }, Value.int IntKind.i64 9, Value.slice none 0 0] 24
  rw [← hW11]
  have ZW11 := Lib.hid hW11
  have CW11 := Lib.hid hcW11
  clear hW11 hsW11 hcW11
  replace BW := BW.trans (hB.mono BW.size)
  replace AT1 := Lib.hid (AT1.out.below hB)
  replace AT2 := Lib.hid (AT2.out.below hB)
  clear hB
  have okT5 : Ts.ok (.cons 4 ⟨#[102]⟩ 0 p1 c1 us1 (.cons 4 ⟨#[103]⟩ 0 p2 c2 us2 (.cons 3 ⟨#[97]⟩ 0 none 0 .nil (.cons 2 ⟨#[]⟩ 7 none 0 .nil (.cons 1 ⟨#[]⟩ 9 none 0 .nil .nil))))) := ⟨by omega, by simp [ByteArray.size], by omega, hcl1, hpn1, OK1.out, by omega, by simp [ByteArray.size], by omega, hcl2, hpn2, OK2.out, by simp [Ts.ok, Ts.len, ByteArray.size]⟩
  have at5 : Ts.At W11 (some ⟨w10.heap.size, 0, none⟩) (.cons 4 ⟨#[102]⟩ 0 p1 c1 us1 (.cons 4 ⟨#[103]⟩ 0 p2 c2 us2 (.cons 3 ⟨#[97]⟩ 0 none 0 .nil (.cons 2 ⟨#[]⟩ 7 none 0 .nil (.cons 1 ⟨#[]⟩ 9 none 0 .nil .nil))))) := ⟨_, 0, .inr rfl, CW11.out 0 _ rfl, CW11.out 1 _ rfl, CW11.out 2 _ rfl, CW11.out 3 _ rfl, AT1.out, CW11.out 4 _ rfl, CW11.out 5 _ rfl, CW11.out 6 _ rfl, CW11.out 7 _ rfl, AT2.out, CW11.out 8 _ rfl, CW11.out 9 _ rfl, CW11.out 10 _ rfl, CW11.out 11 _ rfl, nilat _, CW11.out 12 _ rfl, CW11.out 13 _ rfl, CW11.out 14 _ rfl, CW11.out 15 _ rfl, nilat _, CW11.out 16 _ rfl, CW11.out 17 _ rfl, CW11.out 18 _ rfl, CW11.out 19 _ rfl, nilat _, trivial⟩
  have sz5 : Ts.size (.cons 4 ⟨#[102]⟩ 0 p1 c1 us1 (.cons 4 ⟨#[103]⟩ 0 p2 c2 us2 (.cons 3 ⟨#[97]⟩ 0 none 0 .nil (.cons 2 ⟨#[]⟩ 7 none 0 .nil (.cons 1 ⟨#[]⟩ 9 none 0 .nil .nil))))) ≤ 1000000 := by have h1 := SZ1.out; have h2 := SZ2.out; simp only [Ts.size]; omega
  refine (sort_small (.cons 4 ⟨#[102]⟩ 0 p1 c1 us1 (.cons 4 ⟨#[103]⟩ 0 p2 c2 us2 (.cons 3 ⟨#[97]⟩ 0 none 0 .nil (.cons 2 ⟨#[]⟩ 7 none 0 .nil (.cons 1 ⟨#[]⟩ 9 none 0 .nil .nil))))) (by simp [Ts.len]) (by simp [Ts.len]) sz5 okT5 W11 _ 5 at5).mono ?_
  rintro e w12 ⟨us, R, rfl, htw, -, hown, hB⟩
  replace BW := BW.trans (hB.mono BW.size)
  replace AT1 := Lib.hid (AT1.out.below hB)
  replace AT2 := Lib.hid (AT2.out.below hB)
  clear hB
  obtain ⟨q1, d1, k1, q2, d2, k2, q3, d3, q4, d4, q5, d5, rfl, hk1, hk2⟩ := twin5 htw
  have hrow := hown.row
  rw [show (Ts.len (.cons 4 ⟨#[102]⟩ 0 q1 d1 k1 (.cons 4 ⟨#[103]⟩ 0 q2 d2 k2 (.cons 3 ⟨#[97]⟩ 0 q3 d3 .nil (.cons 2 ⟨#[]⟩ 7 q4 d4 .nil (.cons 1 ⟨#[]⟩ 9 q5 d5 .nil .nil))))) - 1) = 5 - 1 from rfl, sorted5 _ _ _ _ _ _ _ _ _ _ _ _ _ _ _ (hk1.trans LN1.out) (hk2.trans LN2.out)] at hrow
  obtain ⟨l0, -, -, -, -, l4, -, -, -, -, l8, -, -, -, -, -, l13, -⟩ := hrow
  simp only [Ts.len, Nat.zero_add, Nat.reduceAdd] at l0 l4 l8 l13 ⊢
  clear htw hown hk1 hk2 okT5 at5 sz5
  go_wp2_with fail
  refine (V_any 1 _).mono ?_
  rintro e w13 ⟨rfl, hB⟩
  unfold tv
  replace BW := BW.trans (hB.mono BW.size)
  replace AT1 := Lib.hid (AT1.out.below hB)
  replace AT2 := Lib.hid (AT2.out.below hB)
  clear hB
  go_wp2_with fail
  refine (V_any 2 _).mono ?_
  rintro e w14 ⟨rfl, hB⟩
  unfold tv
  replace BW := BW.trans (hB.mono BW.size)
  replace AT1 := Lib.hid (AT1.out.below hB)
  replace AT2 := Lib.hid (AT2.out.below hB)
  clear hB
  go_wp2_with fail
  have hv : cmpT 1 1 ⟨#[]⟩ ⟨#[]⟩ 1 2 .nil .nil (cmpL .nil .nil) = -1 := by decide +kernel
  have HV := Lib.hid hv
  clear hv
  refine (compare_any (k := 1) (k' := 1) (s := ⟨#[]⟩) (s' := ⟨#[]⟩) (n := 1) (n' := 2) (p := none) (p' := none) (c := 0) (c' := 0) (ts := .nil) (us := .nil) (W := w14) (by simp [Ts.size]) trivial trivial (nilat _) (nilat _)).mono ?_
  rintro e w15 ⟨rfl, hB⟩
  rw [HV.out]
  clear HV
  replace BW := BW.trans (hB.mono BW.size)
  replace AT1 := Lib.hid (AT1.out.below hB)
  replace AT2 := Lib.hid (AT2.out.below hB)
  clear hB
  go_wp2_with fail
  refine (A_any ⟨#[97]⟩ _).mono ?_
  rintro e w16 ⟨rfl, hB⟩
  unfold tv
  replace BW := BW.trans (hB.mono BW.size)
  replace AT1 := Lib.hid (AT1.out.below hB)
  replace AT2 := Lib.hid (AT2.out.below hB)
  clear hB
  go_wp2_with fail
  obtain ⟨W17, hW17, hsW17, hB, hcW17⟩ := box1 w16 #[Value.int IntKind.u8 3, Value.string { data := #[97] }, Value.int IntKind.i64 0, Value.slice none 0 0] 24
  rw [← hW17]
  have ZW17 := Lib.hid hW17
  have CW17 := Lib.hid hcW17
  clear hW17 hsW17 hcW17
  replace BW := BW.trans (hB.mono BW.size)
  replace AT1 := Lib.hid (AT1.out.below hB)
  replace AT2 := Lib.hid (AT2.out.below hB)
  clear hB
  refine (F_any ⟨#[103]⟩ (.cons 3 ⟨#[97]⟩ 0 none 0 .nil .nil) (by simp [Ts.size]) (by simp [Ts.ok, Ts.len, ByteArray.size]) W17 _ 1 (lies_one rfl CW17.out (nilat _))).mono ?_
  rintro e w18 ⟨us3, p3, c3, rfl, hat, htw, hok, hcl3, hpn3, hB⟩
  rw [if_neg (by simp [Ts.len])]
  unfold tv
  replace BW := BW.trans (hB.mono BW.size)
  replace AT1 := Lib.hid (AT1.out.below hB)
  replace AT2 := Lib.hid (AT2.out.below hB)
  clear hB
  have AT3 := Lib.hid hat.at
  have TW3 := Lib.hid htw
  have OK3 := Lib.hid hok
  have LN3 : Hid (us3.len = 1) := Lib.hid (Ts.twin_len _ _ htw)
  have SZ3 : Hid (us3.size = 1) := Lib.hid (Ts.twin_size _ _ htw)
  clear hat htw hok
  go_wp2_with fail
  refine (A_any ⟨#[98]⟩ _).mono ?_
  rintro e w19 ⟨rfl, hB⟩
  unfold tv
  replace BW := BW.trans (hB.mono BW.size)
  replace AT1 := Lib.hid (AT1.out.below hB)
  replace AT2 := Lib.hid (AT2.out.below hB)
  replace AT3 := Lib.hid (AT3.out.below hB)
  clear hB
  go_wp2_with fail
  obtain ⟨W20, hW20, hsW20, hB, hcW20⟩ := box1 w19 #[Value.int IntKind.u8 3, Value.string { data := #[98] }, Value.int IntKind.i64 0, Value.slice none 0 0] 24
  rw [← hW20]
  have ZW20 := Lib.hid hW20
  have CW20 := Lib.hid hcW20
  clear hW20 hsW20 hcW20
  replace BW := BW.trans (hB.mono BW.size)
  replace AT1 := Lib.hid (AT1.out.below hB)
  replace AT2 := Lib.hid (AT2.out.below hB)
  replace AT3 := Lib.hid (AT3.out.below hB)
  clear hB
  refine (F_any ⟨#[102]⟩ (.cons 3 ⟨#[98]⟩ 0 none 0 .nil .nil) (by simp [Ts.size]) (by simp [Ts.ok, Ts.len, ByteArray.size]) W20 _ 1 (lies_one rfl CW20.out (nilat _))).mono ?_
  rintro e w21 ⟨us4, p4, c4, rfl, hat, htw, hok, hcl4, hpn4, hB⟩
  rw [if_neg (by simp [Ts.len])]
  unfold tv
  replace BW := BW.trans (hB.mono BW.size)
  replace AT1 := Lib.hid (AT1.out.below hB)
  replace AT2 := Lib.hid (AT2.out.below hB)
  replace AT3 := Lib.hid (AT3.out.below hB)
  clear hB
  have AT4 := Lib.hid hat.at
  have TW4 := Lib.hid htw
  have OK4 := Lib.hid hok
  have LN4 : Hid (us4.len = 1) := Lib.hid (Ts.twin_len _ _ htw)
  have SZ4 : Hid (us4.size = 1) := Lib.hid (Ts.twin_size _ _ htw)
  clear hat htw hok
  go_wp2_with fail
  have hv : cmpT 4 4 ⟨#[103]⟩ ⟨#[102]⟩ 0 0 us3 us4 (cmpL us3 us4) = 1 := by
    have h1 := LN3.out
    have h2 := LN4.out
    have h3 : cb ⟨#[103]⟩ ⟨#[102]⟩ = 1 := by decide +kernel
    simp [cmpT, or0, ci, h1, h2, h3]
  have HV := Lib.hid hv
  clear hv
  refine (compare_any (k := 4) (k' := 4) (s := ⟨#[103]⟩) (s' := ⟨#[102]⟩) (n := 0) (n' := 0) (p := p3) (p' := p4) (c := c3) (c' := c4) (ts := us3) (us := us4) (W := w21) (by have := SZ3.out; omega) OK3.out OK4.out AT3.out AT4.out).mono ?_
  rintro e w22 ⟨rfl, hB⟩
  rw [HV.out]
  clear HV
  replace BW := BW.trans (hB.mono BW.size)
  replace AT1 := Lib.hid (AT1.out.below hB)
  replace AT2 := Lib.hid (AT2.out.below hB)
  replace AT3 := Lib.hid (AT3.out.below hB)
  replace AT4 := Lib.hid (AT4.out.below hB)
  clear hB
  go_wp2
  go_ret
  exact ⟨rfl, BW⟩
end Go.Proofs.Ytlhclblekpngnaa
