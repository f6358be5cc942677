import Derived.Test.YtflomdnjabgnaaaCt
import Derived.Test.YtflomdnjabgnaaaTs
import Derived.Test.YtflomdnjabgnaaaUa0
import Derived.Test.YtflomdnjabgnaaaVc
/-
  Layer 4: the law's wakes: unifications of known terms. (Written by gen_cq.py.)
-/
namespace Go.Proofs.Ytflomdnjabgnaaa
open Go.RowKit

set_option maxRecDepth 100000 in
set_option maxHeartbeats 20000000 in
theorem wakes4_any (w : World) : Calls Try.prog 33 #[] w fun e w' => e = .returned (.bool true) ∧ Below w.heap.size w w' := by
  go_enter Try.func33, Try.ntmps33
  have nilat : ∀ W : World, Ts.At W none .nil := fun _ => ⟨0, 0, .inl rfl, trivial⟩
  have BW : Below w.heap.size w w := Below.refl _ _
  go_wp2_with fail
  refine (new_any w).mono ?_
  rintro e w1 ⟨rfl, hS, hB⟩
  replace BW := BW.trans (hB.mono BW.size)
  clear hB
  have SN1 := Lib.hid hS
  clear hS
  go_wp2_with fail
  refine (V_any 0 _).mono ?_
  rintro e w2 ⟨rfl, hB⟩
  unfold tv
  replace BW := BW.trans (hB.mono BW.size)
  replace SN1 := Lib.hid (SN1.out.below hB)
  clear hB
  go_wp2_with fail
  refine (V_any 1 _).mono ?_
  rintro e w3 ⟨rfl, hB⟩
  unfold tv
  replace BW := BW.trans (hB.mono BW.size)
  replace SN1 := Lib.hid (SN1.out.below hB)
  clear hB
  go_wp2_with fail
  obtain ⟨W4, hW4, hsW4, hB, hcW4⟩ := box1 w3 #[Value.int IntKind.u8 1, Value.string { data := #[] }, Value.int IntKind.i64 0, Value.slice none 0 0, Value.int IntKind.u8 1, Value.string { data := #[] }, Value.int IntKind.i64 1, Value.slice none 0 0] 24
  rw [← hW4]
  have ZW4 := Lib.hid hW4
  have CW4 := Lib.hid hcW4
  clear hW4 hsW4 hcW4
  replace BW := BW.trans (hB.mono BW.size)
  replace SN1 := Lib.hid (SN1.out.below hB)
  clear hB
  refine (F_any ⟨#[102]⟩ (.cons 1 ⟨#[]⟩ 0 none 0 .nil (.cons 1 ⟨#[]⟩ 1 none 0 .nil .nil)) (by simp [Ts.size]) (by simp [Ts.ok, Ts.len, ByteArray.size]) W4 _ 2 (lies_two rfl CW4.out (nilat _) (nilat _))).mono ?_
  rintro e w5 ⟨us1, p1, c1, rfl, hat, htw, hok, hcl1, hpn1, hB⟩
  rw [if_neg (by simp [Ts.len])]
  unfold tv
  replace BW := BW.trans (hB.mono BW.size)
  replace SN1 := Lib.hid (SN1.out.below hB)
  clear hB
  have AT1 := Lib.hid hat.at
  have TW1 := Lib.hid htw
  have OK1 := Lib.hid hok
  have SZ1 := Lib.hid (Ts.twin_size _ _ htw)
  clear hat htw hok
  go_wp2_with fail
  refine (V_any 1 _).mono ?_
  rintro e w6 ⟨rfl, hB⟩
  unfold tv
  replace BW := BW.trans (hB.mono BW.size)
  replace SN1 := Lib.hid (SN1.out.below hB)
  replace AT1 := Lib.hid (AT1.out.below hB)
  clear hB
  go_wp2_with fail
  refine (A_any ⟨#[97]⟩ _).mono ?_
  rintro e w7 ⟨rfl, hB⟩
  unfold tv
  replace BW := BW.trans (hB.mono BW.size)
  replace SN1 := Lib.hid (SN1.out.below hB)
  replace AT1 := Lib.hid (AT1.out.below hB)
  clear hB
  go_wp2_with fail
  obtain ⟨W8, hW8, hsW8, hB, hcW8⟩ := box1 w7 #[Value.int IntKind.u8 1, Value.string { data := #[] }, Value.int IntKind.i64 1, Value.slice none 0 0, Value.int IntKind.u8 3, Value.string { data := #[97] }, Value.int IntKind.i64 0, Value.slice none 0 0] 24
  rw [← hW8]
  have ZW8 := Lib.hid hW8
  have CW8 := Lib.hid hcW8
  clear hW8 hsW8 hcW8
  replace BW := BW.trans (hB.mono BW.size)
  replace SN1 := Lib.hid (SN1.out.below hB)
  replace AT1 := Lib.hid (AT1.out.below hB)
  clear hB
  refine (F_any ⟨#[102]⟩ (.cons 1 ⟨#[]⟩ 1 none 0 .nil (.cons 3 ⟨#[97]⟩ 0 none 0 .nil .nil)) (by simp [Ts.size]) (by simp [Ts.ok, Ts.len, ByteArray.size]) W8 _ 2 (lies_two rfl CW8.out (nilat _) (nilat _))).mono ?_
  rintro e w9 ⟨us2, p2, c2, rfl, hat, htw, hok, hcl2, hpn2, hB⟩
  rw [if_neg (by simp [Ts.len])]
  unfold tv
  replace BW := BW.trans (hB.mono BW.size)
  replace SN1 := Lib.hid (SN1.out.below hB)
  replace AT1 := Lib.hid (AT1.out.below hB)
  clear hB
  have AT2 := Lib.hid hat.at
  have TW2 := Lib.hid htw
  have OK2 := Lib.hid hok
  have SZ2 := Lib.hid (Ts.twin_size _ _ htw)
  clear hat htw hok
  go_wp2_with fail
  refine (Unify_any _ Sb.none 0 w9 SN1.out (by omega) ⟨4, ⟨#[102]⟩, 0, p1, c1, us1⟩ ⟨4, ⟨#[102]⟩, 0, p2, c2, us2⟩ (nd_ok (by omega) (by simp [ByteArray.size]) (by omega) hcl1 hpn1 OK1.out) (nd_ok (by omega) (by simp [ByteArray.size]) (by omega) hcl2 hpn2 OK2.out) AT1.out AT2.out (by show us1.size ≤ 5000; rw [SZ1.out]; simp [Ts.size]) (by show us2.size ≤ 5000; rw [SZ2.out]; simp [Ts.size])).mono ?_
  intro e w10 hL
  have hB := hL.1
  obtain ⟨S2, σp, he, hS2, hST, hSub⟩ := hL.ok_of (X' := nF (tV 0 (tV 1 .nil))) (Y' := nF (tV 1 tA)) ⟨rfl, rfl, rfl, TW1.out⟩ ⟨rfl, rfl, rfl, TW2.out⟩ un_first
  subst he
  clear AT1 AT2 SN1 hL
  replace BW := BW.trans (hB.mono BW.size)
  clear hB
  have SS := Lib.hid hSub
  have HST := Lib.hid hST
  clear hST hSub hS2
  go_wp2_with fail
  refine (V_any 0 _).mono ?_
  rintro e w11 ⟨rfl, hB⟩
  unfold tv
  replace BW := BW.trans (hB.mono BW.size)
  replace SS := Lib.hid (SS.out.below hB)
  clear hB
  go_wp2_with fail
  refine (apply_any S2 σp 2 w11 SS.out (nV 0) (nd_ok (by omega) (by simp [ByteArray.size]) (by omega) ⟨Nat.le_refl _, by omega⟩ (fun _ => rfl) trivial) (nilat _) (by simp [nV, Ts.size])).mono ?_
  rintro e w12 ⟨hap, hB⟩
  obtain ⟨q, he, hqa⟩ := applied_first HST.out SS.out.ends hap
  subst he
  clear hap
  replace BW := BW.trans (hB.mono BW.size)
  replace SS := Lib.hid (SS.out.below hB)
  clear hB
  have QA := Lib.hid hqa
  clear hqa
  go_upto_region 5 with fail
  obtain ⟨W13, hW13⟩ : ∃ W13, W13 = w12.alloc (.cells #[.int .u8 3, .string ⟨#[97]⟩, .int .i64 0, .slice q 0 0] 24) := ⟨_, rfl⟩
  rw [← hW13]
  have hX : BoxIs w12.heap.size ⟨3, ⟨#[97]⟩, 0, q, 0, .nil⟩ W13 := by rw [hW13]; exact BoxIs.new w12 ⟨3, ⟨#[97]⟩, 0, q, 0, .nil⟩ _
  have hB : Below w12.heap.size w12 W13 := by rw [hW13]; exact (Below.refl _ _).alloc (Nat.le_refl _) _
  have ZW13 := Lib.hid hW13
  clear hW13
  replace BW := BW.trans (hB.mono BW.size)
  replace SS := Lib.hid (SS.out.below hB)
  replace QA := Lib.hid (QA.out.below hB)
  clear hB
  have BX := Lib.hid hX
  clear hX
  go_wp2_with fail
  refine (new_any W13).mono ?_
  rintro e w14 ⟨rfl, hS, hB⟩
  replace BW := BW.trans (hB.mono BW.size)
  replace SS := Lib.hid (SS.out.below hB)
  replace QA := Lib.hid (QA.out.below hB)
  replace BX := Lib.hid (BX.out.below hB)
  clear hB
  have SN2 := Lib.hid hS
  clear hS
  go_wp2_with fail
  refine (V_any 0 _).mono ?_
  rintro e w15 ⟨rfl, hB⟩
  unfold tv
  replace BW := BW.trans (hB.mono BW.size)
  replace SS := Lib.hid (SS.out.below hB)
  replace QA := Lib.hid (QA.out.below hB)
  replace BX := Lib.hid (BX.out.below hB)
  replace SN2 := Lib.hid (SN2.out.below hB)
  clear hB
  go_wp2_with fail
  refine (V_any 0 _).mono ?_
  rintro e w16 ⟨rfl, hB⟩
  unfold tv
  replace BW := BW.trans (hB.mono BW.size)
  replace SS := Lib.hid (SS.out.below hB)
  replace QA := Lib.hid (QA.out.below hB)
  replace BX := Lib.hid (BX.out.below hB)
  replace SN2 := Lib.hid (SN2.out.below hB)
  clear hB
  go_wp2_with fail
  obtain ⟨W17, hW17, hsW17, hB, hcW17⟩ := box1 w16 #[Value.int IntKind.u8 1, Value.string { data := #[] }, Value.int IntKind.i64 0, Value.slice none 0 0] 24
  rw [← hW17]
  have ZW17 := Lib.hid hW17
  have CW17 := Lib.hid hcW17
  clear hW17 hsW17 hcW17
  replace BW := BW.trans (hB.mono BW.size)
  replace SS := Lib.hid (SS.out.below hB)
  replace QA := Lib.hid (QA.out.below hB)
  replace BX := Lib.hid (BX.out.below hB)
  replace SN2 := Lib.hid (SN2.out.below hB)
  clear hB
  refine (F_any ⟨#[102]⟩ (.cons 1 ⟨#[]⟩ 0 none 0 .nil .nil) (by simp [Ts.size]) (by simp [Ts.ok, Ts.len, ByteArray.size]) W17 _ 1 (lies_one rfl CW17.out (nilat _))).mono ?_
  rintro e w18 ⟨us3, p3, c3, rfl, hat, htw, hok, hcl3, hpn3, hB⟩
  rw [if_neg (by simp [Ts.len])]
  unfold tv
  replace BW := BW.trans (hB.mono BW.size)
  replace SS := Lib.hid (SS.out.below hB)
  replace QA := Lib.hid (QA.out.below hB)
  replace BX := Lib.hid (BX.out.below hB)
  replace SN2 := Lib.hid (SN2.out.below hB)
  clear hB
  have AT3 := Lib.hid hat.at
  have TW3 := Lib.hid htw
  have OK3 := Lib.hid hok
  have SZ3 := Lib.hid (Ts.twin_size _ _ htw)
  clear hat htw hok
  go_wp2_with fail
  refine (Unify_any _ Sb.none 0 w18 SN2.out (by omega) (nV 0) ⟨4, ⟨#[102]⟩, 0, p3, c3, us3⟩ (nd_ok (by omega) (by simp [ByteArray.size]) (by omega) ⟨Nat.le_refl _, by omega⟩ (fun _ => rfl) trivial) (nd_ok (by omega) (by simp [ByteArray.size]) (by omega) hcl3 hpn3 OK3.out) (nilat _) AT3.out (by simp [nV, Ts.size]) (by show us3.size ≤ 5000; rw [SZ3.out]; simp [Ts.size])).mono ?_
  intro e w19 hL
  have hB := hL.1
  have he := hL.no_of (X' := nV 0) (Y' := nF (tV 0 .nil)) (Nd.twin_refl _) ⟨rfl, rfl, rfl, TW3.out⟩ un_second
  subst he
  clear AT3 SN2 hL
  replace BW := BW.trans (hB.mono BW.size)
  replace SS := Lib.hid (SS.out.below hB)
  replace QA := Lib.hid (QA.out.below hB)
  replace BX := Lib.hid (BX.out.below hB)
  clear hB
  go_wp2_with fail
  refine (new_any w19).mono ?_
  rintro e w20 ⟨rfl, hS, hB⟩
  replace BW := BW.trans (hB.mono BW.size)
  replace SS := Lib.hid (SS.out.below hB)
  replace QA := Lib.hid (QA.out.below hB)
  replace BX := Lib.hid (BX.out.below hB)
  clear hB
  have SN3 := Lib.hid hS
  clear hS
  go_wp2_with fail
  refine (A_any ⟨#[97]⟩ _).mono ?_
  rintro e w21 ⟨rfl, hB⟩
  unfold tv
  replace BW := BW.trans (hB.mono BW.size)
  replace SS := Lib.hid (SS.out.below hB)
  replace QA := Lib.hid (QA.out.below hB)
  replace BX := Lib.hid (BX.out.below hB)
  replace SN3 := Lib.hid (SN3.out.below hB)
  clear hB
  go_wp2_with fail
  refine (I_any 1 _).mono ?_
  rintro e w22 ⟨rfl, hB⟩
  unfold tv
  replace BW := BW.trans (hB.mono BW.size)
  replace SS := Lib.hid (SS.out.below hB)
  replace QA := Lib.hid (QA.out.below hB)
  replace BX := Lib.hid (BX.out.below hB)
  replace SN3 := Lib.hid (SN3.out.below hB)
  clear hB
  go_wp2_with fail
  refine (Unify_any _ Sb.none 0 w22 SN3.out (by omega) nA ⟨2, ⟨#[]⟩, 1, none, 0, .nil⟩ (nd_ok (by omega) (by simp [ByteArray.size]) (by omega) ⟨Nat.le_refl _, by omega⟩ (fun _ => rfl) trivial) (nd_ok (by omega) (by simp [ByteArray.size]) (by omega) ⟨Nat.le_refl _, by omega⟩ (fun _ => rfl) trivial) (nilat _) (nilat _) (by simp [nA, Ts.size]) (by simp [Ts.size])).mono ?_
  intro e w23 hL
  have hB := hL.1
  have he := hL.no_of (X' := nA) (Y' := ⟨2, ⟨#[]⟩, 1, none, 0, .nil⟩) (Nd.twin_refl _) (Nd.twin_refl _) un_third
  subst he
  clear SN3 hL
  replace BW := BW.trans (hB.mono BW.size)
  replace SS := Lib.hid (SS.out.below hB)
  replace QA := Lib.hid (QA.out.below hB)
  replace BX := Lib.hid (BX.out.below hB)
  clear hB
  go_upto_region 7 with fail
  refine region_by_facts (fun W_ => Below w23.heap.size w23 W_) [fun u _ => u = .int .i64 0, fun u _ => u = .bool true, fun u _ => u = .bool true, fun u _ => u = .agg #[.int .u8 3, .string ⟨#[97]⟩, .int .i64 0, .slice q 0 0], fun u _ => u = .agg #[.int .u8 3, .string ⟨#[97]⟩, .int .i64 0, .slice none 0 0], fun u _ => u = .bool true, fun u _ => u = .bool true, fun u _ => u = .bool true, fun u _ => u = .pointer (some ⟨S2, 0, none⟩), fun u _ => u = .int .i64 2, fun u _ => u = .bool true, fun u _ => u = .bool true, fun u _ => u = .bool true, fun u _ => u = .bool false, fun u _ => u = .bool true, fun u _ => u = .bool true, fun u _ => u = .bool true, fun u _ => u = .int .i64 0, fun u _ => u = .bool true, fun u _ => u = .bool true, fun u _ => u = .bool true, fun u _ => u = .bool false, fun u _ => u = .bool true, fun u _ => u = .bool true, fun u _ => u = .bool true, fun u _ => u = .int .i64 0, fun u _ => u = .bool true, fun u _ => u = .bool true, fun u _ => u = .bool true]
    ⟨.eq _, .eq _, .eq _, .eq _, .eq _, .eq _, .eq _, .eq _, .eq _, .eq _, .eq _, .eq _, .eq _, .eq _, .eq _, .eq _, .eq _, .eq _, .eq _, .eq _, .eq _, .eq _, .eq _, .eq _, .eq _, .eq _, .eq _, .eq _, .eq _, trivial⟩ (by kernel_rfl) (by kernel_rfl) (by kernel_rfl) ?h0 ?steps ?done
  case h0 => exact (Below.refl _ _).drew
  case steps =>
    refine ⟨?_, ?_, ?_, ?_, ?_, ?_, ?_, ?_, ?_, ?_, ?_, ?_, ?_, ?_, ?_, ?_, ?_, ?_, ?_, ?_, ?_, ?_, ?_, ?_, ?_, ?_, ?_, ?_, ?_, trivial⟩
    · intro g_ W_ hI hd K hK
      simp only [frameOf, Act.put, List.setIfInBounds_toArray, List.set_cons_zero, List.set_cons_succ]
      go_simp
      refine hK.out (.int .i64 0) _ W_ ?_ hI (Below.refl _ _) rfl
      simp only [frameOf, Act.put, List.setIfInBounds_toArray, List.set_cons_zero, List.set_cons_succ, Nat.zero_add, Nat.reduceAdd]
    · intro g_ W_ hI hd K hK
      simp only [frameOf, Act.put, List.setIfInBounds_toArray, List.set_cons_zero, List.set_cons_succ]
      have h0 : g_ 0 = .int .i64 0 := hd 0 (by kernel_rfl)
      rw [h0]
      go_simp
      refine hK.out (.bool true) _ W_ ?_ hI (Below.refl _ _) rfl
      simp only [frameOf, Act.put, List.setIfInBounds_toArray, List.set_cons_zero, List.set_cons_succ, Nat.zero_add, Nat.reduceAdd, h0]
    · intro g_ W_ hI hd K hK
      simp only [frameOf, Act.put, List.setIfInBounds_toArray, List.set_cons_zero, List.set_cons_succ]
      have h1 : g_ 1 = .bool true := hd 1 (by kernel_rfl)
      rw [h1]
      go_simp
      refine hK.out (.bool true) _ W_ ?_ hI (Below.refl _ _) rfl
      simp only [frameOf, Act.put, List.setIfInBounds_toArray, List.set_cons_zero, List.set_cons_succ, Nat.zero_add, Nat.reduceAdd, h1]
    · intro g_ W_ hI hd K hK
      simp only [frameOf, Act.put, List.setIfInBounds_toArray, List.set_cons_zero, List.set_cons_succ]
      have h2 : g_ 2 = .bool true := hd 2 (by kernel_rfl)
      rw [h2]
      have XW := BX.out.below hI
      have c0 := XW.c0
      have c1 := XW.c1
      have c2 := XW.c2
      have c3 := XW.c3
      simp only [Ts.len] at c0 c1 c2 c3
      go_simp
      refine hK.out (.agg #[.int .u8 3, .string ⟨#[97]⟩, .int .i64 0, .slice q 0 0]) _ W_ ?_ hI (Below.refl _ _) rfl
      simp only [frameOf, Act.put, List.setIfInBounds_toArray, List.set_cons_zero, List.set_cons_succ, Nat.zero_add, Nat.reduceAdd, h2]
    · intro g_ W_ hI hd K hK
      simp only [frameOf, Act.put, List.setIfInBounds_toArray, List.set_cons_zero, List.set_cons_succ]
      have h2 : g_ 2 = .bool true := hd 2 (by kernel_rfl)
      rw [h2]
      go_simp
      refine (A_any ⟨#[97]⟩ W_).mono ?_
      rintro e w' ⟨rfl, hB⟩
      unfold tv
      refine hK.out (.agg #[.int .u8 3, .string ⟨#[97]⟩, .int .i64 0, .slice none 0 0]) _ _ ?_ (hI.trans (hB.mono hI.size)) hB rfl
      simp only [frameOf, Act.put, List.setIfInBounds_toArray, List.set_cons_zero, List.set_cons_succ, Nat.zero_add, Nat.reduceAdd, h2]
    · intro g_ W_ hI hd K hK
      simp only [frameOf, Act.put, List.setIfInBounds_toArray, List.set_cons_zero, List.set_cons_succ]
      have h2 : g_ 2 = .bool true := hd 2 (by kernel_rfl)
      have h3 : g_ 3 = .agg #[.int .u8 3, .string ⟨#[97]⟩, .int .i64 0, .slice q 0 0] := hd 3 (by kernel_rfl)
      have h4 : g_ 4 = .agg #[.int .u8 3, .string ⟨#[97]⟩, .int .i64 0, .slice none 0 0] := hd 4 (by kernel_rfl)
      rw [h2, h3, h4]
      go_simp
      refine (same_of .nil .nil (fun w p p' c c' h h' => all_any _ .nil .nil (Nat.lt_succ_self _) trivial trivial (by simp [Ts.len]) (by simp [Ts.len]) w p p' c c' h h') 3 3 ⟨#[97]⟩ ⟨#[97]⟩ 0 0 q none 0 0 W_ (QA.out.below hI) (nilat _)).mono ?_
      rintro e w' ⟨rfl, hB⟩
      rw [show headAlike 3 3 ⟨#[97]⟩ ⟨#[97]⟩ 0 0 = true by decide +kernel, show alike .nil .nil = true by decide +kernel, Bool.and_self]
      refine hK.out (.bool true) _ _ ?_ (hI.trans (hB.mono hI.size)) hB rfl
      simp only [frameOf, Act.put, List.setIfInBounds_toArray, List.set_cons_zero, List.set_cons_succ, Nat.zero_add, Nat.reduceAdd, h2, h3, h4]
    · intro g_ W_ hI hd K hK
      simp only [frameOf, Act.put, List.setIfInBounds_toArray, List.set_cons_zero, List.set_cons_succ]
      have h2 : g_ 2 = .bool true := hd 2 (by kernel_rfl)
      have h5 : g_ 5 = .bool true := hd 5 (by kernel_rfl)
      rw [h2, h5]
      go_simp
      refine hK.out (.bool true) _ W_ ?_ hI (Below.refl _ _) rfl
      simp only [frameOf, Act.put, List.setIfInBounds_toArray, List.set_cons_zero, List.set_cons_succ, Nat.zero_add, Nat.reduceAdd, h2, h5]
    · intro g_ W_ hI hd K hK
      simp only [frameOf, Act.put, List.setIfInBounds_toArray, List.set_cons_zero, List.set_cons_succ]
      have h6 : g_ 6 = .bool true := hd 6 (by kernel_rfl)
      rw [h6]
      go_simp
      refine hK.out (.bool true) _ W_ ?_ hI (Below.refl _ _) rfl
      simp only [frameOf, Act.put, List.setIfInBounds_toArray, List.set_cons_zero, List.set_cons_succ, Nat.zero_add, Nat.reduceAdd, h6]
    · intro g_ W_ hI hd K hK
      simp only [frameOf, Act.put, List.setIfInBounds_toArray, List.set_cons_zero, List.set_cons_succ]
      have h7 : g_ 7 = .bool true := hd 7 (by kernel_rfl)
      rw [h7]
      go_simp
      refine hK.out (.pointer (some ⟨S2, 0, none⟩)) _ W_ ?_ hI (Below.refl _ _) rfl
      simp only [frameOf, Act.put, List.setIfInBounds_toArray, List.set_cons_zero, List.set_cons_succ, Nat.zero_add, Nat.reduceAdd, h7]
    · intro g_ W_ hI hd K hK
      simp only [frameOf, Act.put, List.setIfInBounds_toArray, List.set_cons_zero, List.set_cons_succ]
      have h7 : g_ 7 = .bool true := hd 7 (by kernel_rfl)
      have h8 : g_ 8 = .pointer (some ⟨S2, 0, none⟩) := hd 8 (by kernel_rfl)
      rw [h7, h8]
      go_simp
      refine (len_any S2 σp 2 W_ (SS.out.below hI)).mono ?_
      rintro e w' ⟨he, rfl⟩
      have he2 : e = .returned (.int .i64 2) := he
      subst he2
      refine hK.out (.int .i64 2) _ _ ?_ hI (Below.refl _ _) rfl
      simp only [frameOf, Act.put, List.setIfInBounds_toArray, List.set_cons_zero, List.set_cons_succ, Nat.zero_add, Nat.reduceAdd, h7, h8]
    · intro g_ W_ hI hd K hK
      simp only [frameOf, Act.put, List.setIfInBounds_toArray, List.set_cons_zero, List.set_cons_succ]
      have h7 : g_ 7 = .bool true := hd 7 (by kernel_rfl)
      have h9 : g_ 9 = .int .i64 2 := hd 9 (by kernel_rfl)
      rw [h7, h9]
      go_simp
      refine hK.out (.bool true) _ W_ ?_ hI (Below.refl _ _) rfl
      simp only [frameOf, Act.put, List.setIfInBounds_toArray, List.set_cons_zero, List.set_cons_succ, Nat.zero_add, Nat.reduceAdd, h7, h9]
    · intro g_ W_ hI hd K hK
      simp only [frameOf, Act.put, List.setIfInBounds_toArray, List.set_cons_zero, List.set_cons_succ]
      have h7 : g_ 7 = .bool true := hd 7 (by kernel_rfl)
      have h10 : g_ 10 = .bool true := hd 10 (by kernel_rfl)
      rw [h7, h10]
      go_simp
      refine hK.out (.bool true) _ W_ ?_ hI (Below.refl _ _) rfl
      simp only [frameOf, Act.put, List.setIfInBounds_toArray, List.set_cons_zero, List.set_cons_succ, Nat.zero_add, Nat.reduceAdd, h7, h10]
    · intro g_ W_ hI hd K hK
      simp only [frameOf, Act.put, List.setIfInBounds_toArray, List.set_cons_zero, List.set_cons_succ]
      have h11 : g_ 11 = .bool true := hd 11 (by kernel_rfl)
      rw [h11]
      go_simp
      refine hK.out (.bool true) _ W_ ?_ hI (Below.refl _ _) rfl
      simp only [frameOf, Act.put, List.setIfInBounds_toArray, List.set_cons_zero, List.set_cons_succ, Nat.zero_add, Nat.reduceAdd, h11]
    · intro g_ W_ hI hd K hK
      simp only [frameOf, Act.put, List.setIfInBounds_toArray, List.set_cons_zero, List.set_cons_succ]
      have h12 : g_ 12 = .bool true := hd 12 (by kernel_rfl)
      rw [h12]
      go_simp
      refine hK.out (.bool false) _ W_ ?_ hI (Below.refl _ _) rfl
      simp only [frameOf, Act.put, List.setIfInBounds_toArray, List.set_cons_zero, List.set_cons_succ, Nat.zero_add, Nat.reduceAdd, h12]
    · intro g_ W_ hI hd K hK
      simp only [frameOf, Act.put, List.setIfInBounds_toArray, List.set_cons_zero, List.set_cons_succ]
      have h12 : g_ 12 = .bool true := hd 12 (by kernel_rfl)
      have h13 : g_ 13 = .bool false := hd 13 (by kernel_rfl)
      rw [h12, h13]
      go_simp
      refine hK.out (.bool true) _ W_ ?_ hI (Below.refl _ _) rfl
      simp only [frameOf, Act.put, List.setIfInBounds_toArray, List.set_cons_zero, List.set_cons_succ, Nat.zero_add, Nat.reduceAdd, h12, h13]
    · intro g_ W_ hI hd K hK
      simp only [frameOf, Act.put, List.setIfInBounds_toArray, List.set_cons_zero, List.set_cons_succ]
      have h12 : g_ 12 = .bool true := hd 12 (by kernel_rfl)
      have h14 : g_ 14 = .bool true := hd 14 (by kernel_rfl)
      rw [h12, h14]
      go_simp
      refine hK.out (.bool true) _ W_ ?_ hI (Below.refl _ _) rfl
      simp only [frameOf, Act.put, List.setIfInBounds_toArray, List.set_cons_zero, List.set_cons_succ, Nat.zero_add, Nat.reduceAdd, h12, h14]
    · intro g_ W_ hI hd K hK
      simp only [frameOf, Act.put, List.setIfInBounds_toArray, List.set_cons_zero, List.set_cons_succ]
      have h15 : g_ 15 = .bool true := hd 15 (by kernel_rfl)
      rw [h15]
      go_simp
      refine hK.out (.bool true) _ W_ ?_ hI (Below.refl _ _) rfl
      simp only [frameOf, Act.put, List.setIfInBounds_toArray, List.set_cons_zero, List.set_cons_succ, Nat.zero_add, Nat.reduceAdd, h15]
    · intro g_ W_ hI hd K hK
      simp only [frameOf, Act.put, List.setIfInBounds_toArray, List.set_cons_zero, List.set_cons_succ]
      have h16 : g_ 16 = .bool true := hd 16 (by kernel_rfl)
      rw [h16]
      go_simp
      refine hK.out (.int .i64 0) _ W_ ?_ hI (Below.refl _ _) rfl
      simp only [frameOf, Act.put, List.setIfInBounds_toArray, List.set_cons_zero, List.set_cons_succ, Nat.zero_add, Nat.reduceAdd, h16]
    · intro g_ W_ hI hd K hK
      simp only [frameOf, Act.put, List.setIfInBounds_toArray, List.set_cons_zero, List.set_cons_succ]
      have h16 : g_ 16 = .bool true := hd 16 (by kernel_rfl)
      have h17 : g_ 17 = .int .i64 0 := hd 17 (by kernel_rfl)
      rw [h16, h17]
      go_simp
      refine hK.out (.bool true) _ W_ ?_ hI (Below.refl _ _) rfl
      simp only [frameOf, Act.put, List.setIfInBounds_toArray, List.set_cons_zero, List.set_cons_succ, Nat.zero_add, Nat.reduceAdd, h16, h17]
    · intro g_ W_ hI hd K hK
      simp only [frameOf, Act.put, List.setIfInBounds_toArray, List.set_cons_zero, List.set_cons_succ]
      have h16 : g_ 16 = .bool true := hd 16 (by kernel_rfl)
      have h18 : g_ 18 = .bool true := hd 18 (by kernel_rfl)
      rw [h16, h18]
      go_simp
      refine hK.out (.bool true) _ W_ ?_ hI (Below.refl _ _) rfl
      simp only [frameOf, Act.put, List.setIfInBounds_toArray, List.set_cons_zero, List.set_cons_succ, Nat.zero_add, Nat.reduceAdd, h16, h18]
    · intro g_ W_ hI hd K hK
      simp only [frameOf, Act.put, List.setIfInBounds_toArray, List.set_cons_zero, List.set_cons_succ]
      have h19 : g_ 19 = .bool true := hd 19 (by kernel_rfl)
      rw [h19]
      go_simp
      refine hK.out (.bool true) _ W_ ?_ hI (Below.refl _ _) rfl
      simp only [frameOf, Act.put, List.setIfInBounds_toArray, List.set_cons_zero, List.set_cons_succ, Nat.zero_add, Nat.reduceAdd, h19]
    · intro g_ W_ hI hd K hK
      simp only [frameOf, Act.put, List.setIfInBounds_toArray, List.set_cons_zero, List.set_cons_succ]
      have h20 : g_ 20 = .bool true := hd 20 (by kernel_rfl)
      rw [h20]
      go_simp
      refine hK.out (.bool false) _ W_ ?_ hI (Below.refl _ _) rfl
      simp only [frameOf, Act.put, List.setIfInBounds_toArray, List.set_cons_zero, List.set_cons_succ, Nat.zero_add, Nat.reduceAdd, h20]
    · intro g_ W_ hI hd K hK
      simp only [frameOf, Act.put, List.setIfInBounds_toArray, List.set_cons_zero, List.set_cons_succ]
      have h20 : g_ 20 = .bool true := hd 20 (by kernel_rfl)
      have h21 : g_ 21 = .bool false := hd 21 (by kernel_rfl)
      rw [h20, h21]
      go_simp
      refine hK.out (.bool true) _ W_ ?_ hI (Below.refl _ _) rfl
      simp only [frameOf, Act.put, List.setIfInBounds_toArray, List.set_cons_zero, List.set_cons_succ, Nat.zero_add, Nat.reduceAdd, h20, h21]
    · intro g_ W_ hI hd K hK
      simp only [frameOf, Act.put, List.setIfInBounds_toArray, List.set_cons_zero, List.set_cons_succ]
      have h20 : g_ 20 = .bool true := hd 20 (by kernel_rfl)
      have h22 : g_ 22 = .bool true := hd 22 (by kernel_rfl)
      rw [h20, h22]
      go_simp
      refine hK.out (.bool true) _ W_ ?_ hI (Below.refl _ _) rfl
      simp only [frameOf, Act.put, List.setIfInBounds_toArray, List.set_cons_zero, List.set_cons_succ, Nat.zero_add, Nat.reduceAdd, h20, h22]
    · intro g_ W_ hI hd K hK
      simp only [frameOf, Act.put, List.setIfInBounds_toArray, List.set_cons_zero, List.set_cons_succ]
      have h23 : g_ 23 = .bool true := hd 23 (by kernel_rfl)
      rw [h23]
      go_simp
      refine hK.out (.bool true) _ W_ ?_ hI (Below.refl _ _) rfl
      simp only [frameOf, Act.put, List.setIfInBounds_toArray, List.set_cons_zero, List.set_cons_succ, Nat.zero_add, Nat.reduceAdd, h23]
    · intro g_ W_ hI hd K hK
      simp only [frameOf, Act.put, List.setIfInBounds_toArray, List.set_cons_zero, List.set_cons_succ]
      have h24 : g_ 24 = .bool true := hd 24 (by kernel_rfl)
      rw [h24]
      go_simp
      refine hK.out (.int .i64 0) _ W_ ?_ hI (Below.refl _ _) rfl
      simp only [frameOf, Act.put, List.setIfInBounds_toArray, List.set_cons_zero, List.set_cons_succ, Nat.zero_add, Nat.reduceAdd, h24]
    · intro g_ W_ hI hd K hK
      simp only [frameOf, Act.put, List.setIfInBounds_toArray, List.set_cons_zero, List.set_cons_succ]
      have h24 : g_ 24 = .bool true := hd 24 (by kernel_rfl)
      have h25 : g_ 25 = .int .i64 0 := hd 25 (by kernel_rfl)
      rw [h24, h25]
      go_simp
      refine hK.out (.bool true) _ W_ ?_ hI (Below.refl _ _) rfl
      simp only [frameOf, Act.put, List.setIfInBounds_toArray, List.set_cons_zero, List.set_cons_succ, Nat.zero_add, Nat.reduceAdd, h24, h25]
    · intro g_ W_ hI hd K hK
      simp only [frameOf, Act.put, List.setIfInBounds_toArray, List.set_cons_zero, List.set_cons_succ]
      have h24 : g_ 24 = .bool true := hd 24 (by kernel_rfl)
      have h26 : g_ 26 = .bool true := hd 26 (by kernel_rfl)
      rw [h24, h26]
      go_simp
      refine hK.out (.bool true) _ W_ ?_ hI (Below.refl _ _) rfl
      simp only [frameOf, Act.put, List.setIfInBounds_toArray, List.set_cons_zero, List.set_cons_succ, Nat.zero_add, Nat.reduceAdd, h24, h26]
    · intro g_ W_ hI hd K hK
      simp only [frameOf, Act.put, List.setIfInBounds_toArray, List.set_cons_zero, List.set_cons_succ]
      have h27 : g_ 27 = .bool true := hd 27 (by kernel_rfl)
      rw [h27]
      go_simp
      refine hK.out (.bool true) _ W_ ?_ hI (Below.refl _ _) rfl
      simp only [frameOf, Act.put, List.setIfInBounds_toArray, List.set_cons_zero, List.set_cons_succ, Nat.zero_add, Nat.reduceAdd, h27]
  case done =>
    intro f_ W_ hI hd
    have h28 : f_ 28 = .bool true := hd 28 (by decide)
    simp only [frameOf, Act.put, List.setIfInBounds_toArray, List.set_cons_zero, List.set_cons_succ, Nat.zero_add, Nat.reduceAdd, h28]
    clear hd
    go_wp2
    go_ret
    exact ⟨rfl, BW.trans (hI.mono BW.size)⟩

end Go.Proofs.Ytflomdnjabgnaaa
/-
  The law UnifyNil, walked.
-/
namespace Go.Proofs.Ytflomdnjabgnaaa
open Go.RowKit

theorem pairBoxes {w W3 : World} {a b : Nd} (h : W3 = ((w.alloc (.cells #[.int .u8 a.k, .string a.s, .int .i64 a.n, .slice a.p a.kids.len a.c] 24)).alloc (.cells #[.int .u8 b.k, .string b.s, .int .i64 b.n, .slice b.p b.kids.len b.c] 24)).alloc (.cells #[.int .u8 a.k, .string a.s, .int .i64 a.n, .slice a.p a.kids.len a.c, .int .u8 b.k, .string b.s, .int .i64 b.n, .slice b.p b.kids.len b.c] 24)) (hata : Ts.At w a.p a.kids) (hatb : Ts.At w b.p b.kids) :
    BoxIs w.heap.size a W3 ∧ BoxIs (w.heap.size + 1) b W3 ∧ Below w.heap.size w W3 ∧ Ts.At W3 (some ⟨w.heap.size + 1 + 1, 0, none⟩) (.cons a.k a.s a.n a.p a.c a.kids (.cons b.k b.s b.n b.p b.c b.kids .nil)) := by
  obtain ⟨W2, hW2⟩ : ∃ W2, W2 = (w.alloc (.cells #[.int .u8 a.k, .string a.s, .int .i64 a.n, .slice a.p a.kids.len a.c] 24)).alloc (.cells #[.int .u8 b.k, .string b.s, .int .i64 b.n, .slice b.p b.kids.len b.c] 24) := ⟨_, rfl⟩
  have hs : W2.heap.size = w.heap.size + 1 + 1 := by rw [hW2]; simp
  have hB : Below w.heap.size w W2 := by rw [hW2]; exact below2 _ _ _
  have h1 : BoxIs w.heap.size a W2 := by rw [hW2]; exact (BoxIs.new w a _).below ((Below.refl _ _).alloc (Nat.le_refl _) _)
  have h2 : BoxIs (w.heap.size + 1) b W2 := by
    have h := BoxIs.new (w.alloc (.cells #[.int .u8 a.k, .string a.s, .int .i64 a.n, .slice a.p a.kids.len a.c] 24)) b 24
    rw [World.size_alloc] at h
    rw [hW2]; exact h
  rw [← hW2] at h
  obtain ⟨W4, hW4, hs4, hB4, hc4⟩ := box1 W2 #[.int .u8 a.k, .string a.s, .int .i64 a.n, .slice a.p a.kids.len a.c, .int .u8 b.k, .string b.s, .int .i64 b.n, .slice b.p b.kids.len b.c] 24
  rw [← hW4] at h
  subst h
  rw [hs] at hc4
  have hBB := hB.trans (hB4.mono hB.size)
  exact ⟨h1.below hB4, h2.below hB4, hBB, lies_two rfl hc4 (hata.below hBB) (hatb.below hBB)⟩

set_option maxRecDepth 100000 in
set_option maxHeartbeats 8000000 in
theorem unifyNil_true (a b : Nd) (w : World) (hoka : Ts.ok (.cons a.k a.s a.n a.p a.c a.kids .nil)) (hata : Ts.At w a.p a.kids) (hokb : Ts.ok (.cons b.k b.s b.n b.p b.c b.kids .nil)) (hatb : Ts.At w b.p b.kids) :
    Calls Try.prog 7 #[.agg #[.int .u8 a.k, .string a.s, .int .i64 a.n, .slice a.p a.kids.len a.c], .agg #[.int .u8 b.k, .string b.s, .int .i64 b.n, .slice b.p b.kids.len b.c]] w fun e w' => e = .returned (.bool true) ∧ Below w.heap.size w w' := by
  have OKA := Lib.hid hoka
  have OKB := Lib.hid hokb
  have ATA := Lib.hid hata
  have ATB := Lib.hid hatb
  clear hoka hokb hata hatb
  go_enter Try.func7, Try.ntmps7
  go_wp2_with fail
  obtain ⟨W3, hW3⟩ : ∃ W3, W3 = ((w.alloc (.cells #[.int .u8 a.k, .string a.s, .int .i64 a.n, .slice a.p a.kids.len a.c] 24)).alloc (.cells #[.int .u8 b.k, .string b.s, .int .i64 b.n, .slice b.p b.kids.len b.c] 24)).alloc (.cells #[.int .u8 a.k, .string a.s, .int .i64 a.n, .slice a.p a.kids.len a.c, .int .u8 b.k, .string b.s, .int .i64 b.n, .slice b.p b.kids.len b.c] 24) := ⟨_, rfl⟩
  rw [← hW3]
  obtain ⟨hba, hbb, hB, hat⟩ := pairBoxes hW3 ATA.out ATB.out
  have BA := Lib.hid hba
  have BB := Lib.hid hbb
  have BW := Lib.hid hB
  clear hba hbb hB hW3
  obtain ⟨g, hg⟩ : ∃ g, g = decide (1000 < manyP (.cons a.k a.s a.n a.p a.c a.kids (.cons b.k b.s b.n b.p b.c b.kids .nil)) 0) := ⟨_, rfl⟩
  refine (great_is (.cons a.k a.s a.n a.p a.c a.kids (.cons b.k b.s b.n b.p b.c b.kids .nil)) ⟨OKA.out.1, OKA.out.2.1, OKA.out.2.2.1, OKA.out.2.2.2.1, OKA.out.2.2.2.2.1, OKA.out.2.2.2.2.2.1, OKB.out⟩ g hg.symm W3 _ 2 hat (by simp [Ts.len])).mono ?_
  rintro e w2 ⟨rfl, hB⟩
  clear hg hat
  replace BA := Lib.hid (BA.out.below hB)
  replace BB := Lib.hid (BB.out.below hB)
  replace BW := Lib.hid (BW.out.trans (hB.mono BW.out.size))
  clear hB
  cases g with
  | true =>
    go_wp2_with fail
    refine (wakes4_any _).mono ?_
    rintro e we ⟨rfl, hB⟩
    replace BW := Lib.hid (BW.out.trans (hB.mono BW.out.size))
    clear hB
    go_wp2
    go_ret
    exact ⟨rfl, BW.out⟩
  | false =>
    have a0 := BA.out.c0
    have a1 := BA.out.c1
    have a2 := BA.out.c2
    have a3 := BA.out.c3
    have b0 := BB.out.c0
    have b1 := BB.out.c1
    have b2 := BB.out.c2
    have b3 := BB.out.c3
    go_wp2_with fail
    refine (UnifyNil_any a b _).mono ?_
    rintro e w3 ⟨rfl, hB⟩
    replace BW := Lib.hid (BW.out.trans (hB.mono BW.out.size))
    clear hB a0 a1 a2 a3 b0 b1 b2 b3
    go_wp2_with fail
    refine (ListsNil_any _ _ _ _ _ _ _).mono ?_
    rintro e w4 ⟨rfl, hB⟩
    replace BW := Lib.hid (BW.out.trans (hB.mono BW.out.size))
    clear hB
    go_wp2_with fail
    refine (wakes4_any _).mono ?_
    rintro e we ⟨rfl, hB⟩
    replace BW := Lib.hid (BW.out.trans (hB.mono BW.out.size))
    clear hB
    go_wp2
    go_ret
    exact ⟨rfl, BW.out⟩

theorem unifyNil_w (w : World) (k : Int) (s : ByteArray) (n : Int) (p : Option Addr) (c : Nat) (ts : Ts) (k' : Int) (s' : ByteArray) (n' : Int) (p' : Option Addr) (c' : Nat) (ts' : Ts)
    (hok : Ts.ok (.cons k s n p c ts .nil)) (hat : Ts.At w p ts) (hok' : Ts.ok (.cons k' s' n' p' c' ts' .nil)) (hat' : Ts.At w p' ts') :
    Calls Try.prog 7 #[tv k s n p ts.len c, tv k' s' n' p' ts'.len c'] w fun e w' => e = .returned (.bool true) ∧ Below w.heap.size w w' :=
  unifyNil_true ⟨k, s, n, p, c, ts⟩ ⟨k', s', n', p', c', ts'⟩ w hok hat hok' hat'

end Go.Proofs.Ytflomdnjabgnaaa
