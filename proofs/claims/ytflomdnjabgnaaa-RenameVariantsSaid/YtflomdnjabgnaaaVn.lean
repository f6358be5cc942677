import Derived.Test.YtflomdnjabgnaaaVl
/-
  Layer 5: terms that are known. (Written by gen_vm.py.)
-/
namespace Go.Proofs.Ytflomdnjabgnaaa
open Go.RowKit

theorem renT_twin {σ : Type} (step : σ → Int → Int × σ) : ∀ {us ts : Ts}, Ts.twin us ts → ∀ {st : σ}, renT step us st = renT step ts st
  | .nil, .nil, _, _ => rfl
  | .cons _ _ _ _ _ k r, .cons _ _ _ _ _ k' r', h, st => by
    obtain ⟨rfl, rfl, rfl, h1, h2⟩ := h
    simp only [renT, renT_twin step h1, renT_twin step h2]
  | .nil, .cons .., h, _ => h.elim
  | .cons .., .nil, h, _ => h.elim

theorem cntL_twin : ∀ {us ts : Ts}, Ts.twin us ts → cntL us = cntL ts
  | .nil, .nil, _ => rfl
  | .cons _ _ _ _ _ k r, .cons _ _ _ _ _ k' r', h => by
    obtain ⟨rfl, rfl, rfl, h1, h2⟩ := h
    simp only [cntL, cntL_twin h1, cntL_twin h2]
  | .nil, .cons .., h => h.elim
  | .cons .., .nil, h => h.elim

theorem numsFit_twin : ∀ {us ts : Ts}, Ts.twin us ts → (numsFit us ↔ numsFit ts)
  | .nil, .nil, _ => Iff.rfl
  | .cons _ _ _ _ _ k r, .cons _ _ _ _ _ k' r', h => by
    obtain ⟨rfl, rfl, rfl, h1, h2⟩ := h
    simp only [numsFit, numsFit_twin h1, numsFit_twin h2]
  | .nil, .cons .., h => h.elim
  | .cons .., .nil, h => h.elim

set_option maxRecDepth 100000 in
set_option maxHeartbeats 4000000 in
theorem wakes5_any (w : World) : Calls Try.prog 40 #[] w fun e w' => e = .returned (.bool true) ∧ Below w.heap.size w w' := by
  have nilat : ∀ W : World, Ts.At W none .nil := fun _ => ⟨0, 0, .inl rfl, trivial⟩
  have BW : Below w.heap.size w w := Below.refl _ _
  go_enter Try.func40, Try.ntmps40
  go_wp2_with fail
  refine (V_any _ _).mono ?_
  rintro e w1 ⟨rfl, hB⟩
  unfold tv
  replace BW := BW.trans (hB.mono BW.size)
  clear hB
  go_wp2_with fail
  refine (V_any _ _).mono ?_
  rintro e w2 ⟨rfl, hB⟩
  unfold tv
  replace BW := BW.trans (hB.mono BW.size)
  clear hB
  go_wp2_with fail
  obtain ⟨W3, hW3, hsW3, hB, hcW3⟩ := box1 w2 #[Value.int IntKind.u8 1, Value.string { data := #[] }, Value.int IntKind.i64 7, Value.slice none 0 0, Value.int IntKind.u8 1, Value.string { data := #[] }, Value.int IntKind.i64 3, Value.slice none 0 0] 24
  rw [← hW3]
  have ZW3 := Lib.hid hW3
  have CW3 := Lib.hid hcW3
  clear hW3 hsW3 hcW3
  replace BW := BW.trans (hB.mono BW.size)
  clear hB
  refine (F_any ⟨#[102]⟩ (.cons 1 ⟨#[]⟩ 7 none 0 .nil (.cons 1 ⟨#[]⟩ 3 none 0 .nil .nil)) (by simp [Ts.size]) (by simp [Ts.ok, Ts.len, ByteArray.size]) W3 _ 2 (lies_two rfl CW3.out (nilat _) (nilat _))).mono ?_
  rintro e w4 ⟨us1, p1, c1, rfl, hat, htw, hok, hcl1, hpn1, hB⟩
  rw [if_neg (by simp [Ts.len])]
  unfold tv
  replace BW := BW.trans (hB.mono BW.size)
  clear hB
  have AT1 := Lib.hid hat.at
  have TW1 := Lib.hid htw
  have OK1 := Lib.hid hok
  clear hat htw hok
  go_wp2_with fail
  refine (V_any _ _).mono ?_
  rintro e w5 ⟨rfl, hB⟩
  unfold tv
  replace BW := BW.trans (hB.mono BW.size)
  replace AT1 := Lib.hid (AT1.out.below hB)
  clear hB
  go_wp2_with fail
  obtain ⟨W6, hW6, hsW6, hB, hcW6⟩ := box1 w5 #[Value.int IntKind.u8 4, Value.string { data := #[102] }, Value.int IntKind.i64 0, Value.slice p1 us1.len c1, Value.int IntKind.u8 1, Value.string { data := #[] }, Value.int IntKind.i64 7, Value.slice none 0 0] 24
  rw [← hW6]
  have ZW6 := Lib.hid hW6
  have CW6 := Lib.hid hcW6
  clear hW6 hsW6 hcW6
  replace BW := BW.trans (hB.mono BW.size)
  replace AT1 := Lib.hid (AT1.out.below hB)
  clear hB
  have sz1 : us1.size = 2 := Ts.twin_size _ _ TW1.out
  have okT1 : Ts.ok (.cons 4 ⟨#[102]⟩ 0 p1 c1 us1 (.cons 1 ⟨#[]⟩ 7 none 0 .nil .nil)) := ⟨by omega, by simp [ByteArray.size], by omega, hcl1, hpn1, OK1.out, by simp [Ts.ok, Ts.len, ByteArray.size]⟩
  refine (canon_any (.cons 4 ⟨#[102]⟩ 0 p1 c1 us1 (.cons 1 ⟨#[]⟩ 7 none 0 .nil .nil)) (by simp [Ts.size, sz1]) okT1 W6 _ 2 (lies_two rfl CW6.out AT1.out (nilat _))).mono ?_
  rintro e w7 ⟨usc, qc, rfl, hat, htw, hok, hqc, hB⟩
  replace BW := BW.trans (hB.mono BW.size)
  replace AT1 := Lib.hid (AT1.out.below hB)
  clear hB
  have ATC := Lib.hid hat.at
  have TWC := Lib.hid htw
  have OKC := Lib.hid hok
  clear hat htw hok okT1
  go_wp2_with fail
  refine (V_any _ _).mono ?_
  rintro e w8 ⟨rfl, hB⟩
  unfold tv
  replace BW := BW.trans (hB.mono BW.size)
  replace AT1 := Lib.hid (AT1.out.below hB)
  replace ATC := Lib.hid (ATC.out.below hB)
  clear hB
  go_wp2_with fail
  refine (V_any _ _).mono ?_
  rintro e w9 ⟨rfl, hB⟩
  unfold tv
  replace BW := BW.trans (hB.mono BW.size)
  replace AT1 := Lib.hid (AT1.out.below hB)
  replace ATC := Lib.hid (ATC.out.below hB)
  clear hB
  go_wp2_with fail
  obtain ⟨W10, hW10, hsW10, hB, hcW10⟩ := box1 w9 #[Value.int IntKind.u8 1, Value.string { data := #[] }, Value.int IntKind.i64 0, Value.slice none 0 0, Value.int IntKind.u8 1, Value.string { data := #[] }, Value.int IntKind.i64 0, Value.slice none 0 0] 24
  rw [← hW10]
  have ZW10 := Lib.hid hW10
  have CW10 := Lib.hid hcW10
  clear hW10 hsW10 hcW10
  replace BW := BW.trans (hB.mono BW.size)
  replace AT1 := Lib.hid (AT1.out.below hB)
  replace ATC := Lib.hid (ATC.out.below hB)
  clear hB
  refine (F_any ⟨#[102]⟩ (.cons 1 ⟨#[]⟩ 0 none 0 .nil (.cons 1 ⟨#[]⟩ 0 none 0 .nil .nil)) (by simp [Ts.size]) (by simp [Ts.ok, Ts.len, ByteArray.size]) W10 _ 2 (lies_two rfl CW10.out (nilat _) (nilat _))).mono ?_
  rintro e w11 ⟨us2, p2, c2, rfl, hat, htw, hok, hcl2, hpn2, hB⟩
  rw [if_neg (by simp [Ts.len])]
  unfold tv
  replace BW := BW.trans (hB.mono BW.size)
  replace AT1 := Lib.hid (AT1.out.below hB)
  replace ATC := Lib.hid (ATC.out.below hB)
  clear hB
  have AT2 := Lib.hid hat.at
  have TW2 := Lib.hid htw
  have OK2 := Lib.hid hok
  clear hat htw hok
  go_wp2_with fail
  obtain ⟨W12, hW12, hsW12, hB, hcW12⟩ := box1 w11 #[Value.int IntKind.u8 4, Value.string { data := #[102] }, Value.int IntKind.i64 0, Value.slice p2 us2.len c2] 24
  rw [← hW12]
  have ZW12 := Lib.hid hW12
  have CW12 := Lib.hid hcW12
  clear hW12 hsW12 hcW12
  replace BW := BW.trans (hB.mono BW.size)
  replace AT1 := Lib.hid (AT1.out.below hB)
  replace ATC := Lib.hid (ATC.out.below hB)
  replace AT2 := Lib.hid (AT2.out.below hB)
  clear hB
  have ATF := Lib.hid (lies_one rfl CW12.out AT2.out)
  go_wp2_with fail
  refine (V_any _ _).mono ?_
  rintro e w13 ⟨rfl, hB⟩
  unfold tv
  replace BW := BW.trans (hB.mono BW.size)
  replace AT1 := Lib.hid (AT1.out.below hB)
  replace ATC := Lib.hid (ATC.out.below hB)
  replace AT2 := Lib.hid (AT2.out.below hB)
  replace ATF := Lib.hid (ATF.out.below hB)
  clear hB
  go_wp2_with fail
  refine (V_any _ _).mono ?_
  rintro e w14 ⟨rfl, hB⟩
  unfold tv
  replace BW := BW.trans (hB.mono BW.size)
  replace AT1 := Lib.hid (AT1.out.below hB)
  replace ATC := Lib.hid (ATC.out.below hB)
  replace AT2 := Lib.hid (AT2.out.below hB)
  replace ATF := Lib.hid (ATF.out.below hB)
  clear hB
  go_wp2_with fail
  obtain ⟨W15, hW15, hsW15, hB, hcW15⟩ := box1 w14 #[Value.int IntKind.u8 1, Value.string { data := #[] }, Value.int IntKind.i64 0, Value.slice none 0 0, Value.int IntKind.u8 1, Value.string { data := #[] }, Value.int IntKind.i64 1, Value.slice none 0 0] 24
  rw [← hW15]
  have ZW15 := Lib.hid hW15
  have CW15 := Lib.hid hcW15
  clear hW15 hsW15 hcW15
  replace BW := BW.trans (hB.mono BW.size)
  replace AT1 := Lib.hid (AT1.out.below hB)
  replace ATC := Lib.hid (ATC.out.below hB)
  replace AT2 := Lib.hid (AT2.out.below hB)
  replace ATF := Lib.hid (ATF.out.below hB)
  clear hB
  refine (F_any ⟨#[102]⟩ (.cons 1 ⟨#[]⟩ 0 none 0 .nil (.cons 1 ⟨#[]⟩ 1 none 0 .nil .nil)) (by simp [Ts.size]) (by simp [Ts.ok, Ts.len, ByteArray.size]) W15 _ 2 (lies_two rfl CW15.out (nilat _) (nilat _))).mono ?_
  rintro e w16 ⟨us3, p3, c3, rfl, hat, htw, hok, hcl3, hpn3, hB⟩
  rw [if_neg (by simp [Ts.len])]
  unfold tv
  replace BW := BW.trans (hB.mono BW.size)
  replace AT1 := Lib.hid (AT1.out.below hB)
  replace ATC := Lib.hid (ATC.out.below hB)
  replace AT2 := Lib.hid (AT2.out.below hB)
  replace ATF := Lib.hid (ATF.out.below hB)
  clear hB
  have AT3 := Lib.hid hat.at
  have TW3 := Lib.hid htw
  have OK3 := Lib.hid hok
  clear hat htw hok
  go_wp2_with fail
  obtain ⟨W17, hW17, hsW17, hB, hcW17⟩ := box1 w16 #[Value.int IntKind.u8 4, Value.string { data := #[102] }, Value.int IntKind.i64 0, Value.slice p3 us3.len c3] 24
  rw [← hW17]
  have ZW17 := Lib.hid hW17
  have CW17 := Lib.hid hcW17
  clear hW17 hsW17 hcW17
  replace BW := BW.trans (hB.mono BW.size)
  replace AT1 := Lib.hid (AT1.out.below hB)
  replace ATC := Lib.hid (ATC.out.below hB)
  replace AT2 := Lib.hid (AT2.out.below hB)
  replace ATF := Lib.hid (ATF.out.below hB)
  replace AT3 := Lib.hid (AT3.out.below hB)
  clear hB
  have ATG := Lib.hid (lies_one rfl CW17.out AT3.out)
  go_wp2_with fail
  refine (V_any _ _).mono ?_
  rintro e w18 ⟨rfl, hB⟩
  unfold tv
  replace BW := BW.trans (hB.mono BW.size)
  replace AT1 := Lib.hid (AT1.out.below hB)
  replace ATC := Lib.hid (ATC.out.below hB)
  replace AT2 := Lib.hid (AT2.out.below hB)
  replace ATF := Lib.hid (ATF.out.below hB)
  replace AT3 := Lib.hid (AT3.out.below hB)
  replace ATG := Lib.hid (ATG.out.below hB)
  clear hB
  go_wp2_with fail
  refine (V_any _ _).mono ?_
  rintro e w19 ⟨rfl, hB⟩
  unfold tv
  replace BW := BW.trans (hB.mono BW.size)
  replace AT1 := Lib.hid (AT1.out.below hB)
  replace ATC := Lib.hid (ATC.out.below hB)
  replace AT2 := Lib.hid (AT2.out.below hB)
  replace ATF := Lib.hid (ATF.out.below hB)
  replace AT3 := Lib.hid (AT3.out.below hB)
  replace ATG := Lib.hid (ATG.out.below hB)
  clear hB
  go_wp2_with fail
  obtain ⟨W20, hW20, hsW20, hB, hcW20⟩ := box1 w19 #[Value.int IntKind.u8 1, Value.string { data := #[] }, Value.int IntKind.i64 1, Value.slice none 0 0, Value.int IntKind.u8 1, Value.string { data := #[] }, Value.int IntKind.i64 0, Value.slice none 0 0] 24
  rw [← hW20]
  have ZW20 := Lib.hid hW20
  have CW20 := Lib.hid hcW20
  clear hW20 hsW20 hcW20
  replace BW := BW.trans (hB.mono BW.size)
  replace AT1 := Lib.hid (AT1.out.below hB)
  replace ATC := Lib.hid (ATC.out.below hB)
  replace AT2 := Lib.hid (AT2.out.below hB)
  replace ATF := Lib.hid (ATF.out.below hB)
  replace AT3 := Lib.hid (AT3.out.below hB)
  replace ATG := Lib.hid (ATG.out.below hB)
  clear hB
  refine (F_any ⟨#[102]⟩ (.cons 1 ⟨#[]⟩ 1 none 0 .nil (.cons 1 ⟨#[]⟩ 0 none 0 .nil .nil)) (by simp [Ts.size]) (by simp [Ts.ok, Ts.len, ByteArray.size]) W20 _ 2 (lies_two rfl CW20.out (nilat _) (nilat _))).mono ?_
  rintro e w21 ⟨us4, p4, c4, rfl, hat, htw, hok, hcl4, hpn4, hB⟩
  rw [if_neg (by simp [Ts.len])]
  unfold tv
  replace BW := BW.trans (hB.mono BW.size)
  replace AT1 := Lib.hid (AT1.out.below hB)
  replace ATC := Lib.hid (ATC.out.below hB)
  replace AT2 := Lib.hid (AT2.out.below hB)
  replace ATF := Lib.hid (ATF.out.below hB)
  replace AT3 := Lib.hid (AT3.out.below hB)
  replace ATG := Lib.hid (ATG.out.below hB)
  clear hB
  have AT4 := Lib.hid hat.at
  have TW4 := Lib.hid htw
  have OK4 := Lib.hid hok
  clear hat htw hok
  go_wp2_with fail
  obtain ⟨W22, hW22, hsW22, hB, hcW22⟩ := box1 w21 #[Value.int IntKind.u8 4, Value.string { data := #[102] }, Value.int IntKind.i64 0, Value.slice p4 us4.len c4] 24
  rw [← hW22]
  have ZW22 := Lib.hid hW22
  have CW22 := Lib.hid hcW22
  clear hW22 hsW22 hcW22
  replace BW := BW.trans (hB.mono BW.size)
  replace AT1 := Lib.hid (AT1.out.below hB)
  replace ATC := Lib.hid (ATC.out.below hB)
  replace AT2 := Lib.hid (AT2.out.below hB)
  replace ATF := Lib.hid (ATF.out.below hB)
  replace AT3 := Lib.hid (AT3.out.below hB)
  replace ATG := Lib.hid (ATG.out.below hB)
  replace AT4 := Lib.hid (AT4.out.below hB)
  clear hB
  have ATH := Lib.hid (lies_one rfl CW22.out AT4.out)
  go_wp2_with fail
  refine (V_any _ _).mono ?_
  rintro e w23 ⟨rfl, hB⟩
  unfold tv
  replace BW := BW.trans (hB.mono BW.size)
  replace AT1 := Lib.hid (AT1.out.below hB)
  replace ATC := Lib.hid (ATC.out.below hB)
  replace AT2 := Lib.hid (AT2.out.below hB)
  replace ATF := Lib.hid (ATF.out.below hB)
  replace AT3 := Lib.hid (AT3.out.below hB)
  replace ATG := Lib.hid (ATG.out.below hB)
  replace AT4 := Lib.hid (AT4.out.below hB)
  replace ATH := Lib.hid (ATH.out.below hB)
  clear hB
  go_wp2_with fail
  refine (V_any _ _).mono ?_
  rintro e w24 ⟨rfl, hB⟩
  unfold tv
  replace BW := BW.trans (hB.mono BW.size)
  replace AT1 := Lib.hid (AT1.out.below hB)
  replace ATC := Lib.hid (ATC.out.below hB)
  replace AT2 := Lib.hid (AT2.out.below hB)
  replace ATF := Lib.hid (ATF.out.below hB)
  replace AT3 := Lib.hid (AT3.out.below hB)
  replace ATG := Lib.hid (ATG.out.below hB)
  replace AT4 := Lib.hid (AT4.out.below hB)
  replace ATH := Lib.hid (ATH.out.below hB)
  clear hB
  go_wp2_with fail
  obtain ⟨W25, hW25, hsW25, hB, hcW25⟩ := box1 w24 #[Value.int IntKind.u8 1, Value.string { data := #[] }, Value.int IntKind.i64 0, Value.slice none 0 0, Value.int IntKind.u8 1, Value.string { data := #[] }, Value.int IntKind.i64 1, Value.slice none 0 0] 24
  rw [← hW25]
  have ZW25 := Lib.hid hW25
  have CW25 := Lib.hid hcW25
  clear hW25 hsW25 hcW25
  replace BW := BW.trans (hB.mono BW.size)
  replace AT1 := Lib.hid (AT1.out.below hB)
  replace ATC := Lib.hid (ATC.out.below hB)
  replace AT2 := Lib.hid (AT2.out.below hB)
  replace ATF := Lib.hid (ATF.out.below hB)
  replace AT3 := Lib.hid (AT3.out.below hB)
  replace ATG := Lib.hid (ATG.out.below hB)
  replace AT4 := Lib.hid (AT4.out.below hB)
  replace ATH := Lib.hid (ATH.out.below hB)
  clear hB
  refine (F_any ⟨#[102]⟩ (.cons 1 ⟨#[]⟩ 0 none 0 .nil (.cons 1 ⟨#[]⟩ 1 none 0 .nil .nil)) (by simp [Ts.size]) (by simp [Ts.ok, Ts.len, ByteArray.size]) W25 _ 2 (lies_two rfl CW25.out (nilat _) (nilat _))).mono ?_
  rintro e w26 ⟨us5, p5, c5, rfl, hat, htw, hok, hcl5, hpn5, hB⟩
  rw [if_neg (by simp [Ts.len])]
  unfold tv
  replace BW := BW.trans (hB.mono BW.size)
  replace AT1 := Lib.hid (AT1.out.below hB)
  replace ATC := Lib.hid (ATC.out.below hB)
  replace AT2 := Lib.hid (AT2.out.below hB)
  replace ATF := Lib.hid (ATF.out.below hB)
  replace AT3 := Lib.hid (AT3.out.below hB)
  replace ATG := Lib.hid (ATG.out.below hB)
  replace AT4 := Lib.hid (AT4.out.below hB)
  replace ATH := Lib.hid (ATH.out.below hB)
  clear hB
  have AT5 := Lib.hid hat.at
  have TW5 := Lib.hid htw
  have OK5 := Lib.hid hok
  clear hat htw hok
  go_wp2_with fail
  refine (V_any _ _).mono ?_
  rintro e w27 ⟨rfl, hB⟩
  unfold tv
  replace BW := BW.trans (hB.mono BW.size)
  replace AT1 := Lib.hid (AT1.out.below hB)
  replace ATC := Lib.hid (ATC.out.below hB)
  replace AT2 := Lib.hid (AT2.out.below hB)
  replace ATF := Lib.hid (ATF.out.below hB)
  replace AT3 := Lib.hid (AT3.out.below hB)
  replace ATG := Lib.hid (ATG.out.below hB)
  replace AT4 := Lib.hid (AT4.out.below hB)
  replace ATH := Lib.hid (ATH.out.below hB)
  replace AT5 := Lib.hid (AT5.out.below hB)
  clear hB
  go_wp2_with fail
  obtain ⟨W28, hW28, hsW28, hB, hcW28⟩ := box1 w27 #[Value.int IntKind.u8 4, Value.string { data := #[102] }, Value.int IntKind.i64 0, Value.slice p5 us5.len c5, Value.int IntKind.u8 1, Value.string { data := #[] }, Value.int IntKind.i64 0, Value.slice none 0 0] 24
  rw [← hW28]
  have ZW28 := Lib.hid hW28
  have CW28 := Lib.hid hcW28
  clear hW28 hsW28 hcW28
  replace BW := BW.trans (hB.mono BW.size)
  replace AT1 := Lib.hid (AT1.out.below hB)
  replace ATC := Lib.hid (ATC.out.below hB)
  replace AT2 := Lib.hid (AT2.out.below hB)
  replace ATF := Lib.hid (ATF.out.below hB)
  replace AT3 := Lib.hid (AT3.out.below hB)
  replace ATG := Lib.hid (ATG.out.below hB)
  replace AT4 := Lib.hid (AT4.out.below hB)
  replace ATH := Lib.hid (ATH.out.below hB)
  replace AT5 := Lib.hid (AT5.out.below hB)
  clear hB
  have sz2 : us2.size = 2 := Ts.twin_size _ _ TW2.out
  have sz3 : us3.size = 2 := Ts.twin_size _ _ TW3.out
  have sz4 : us4.size = 2 := Ts.twin_size _ _ TW4.out
  have sz5 : us5.size = 2 := Ts.twin_size _ _ TW5.out
  have szc := (Ts.twin_size _ _ TWC.out).trans (renT_size stepC _ _)
  have lc := Ts.len_size usc
  simp only [Ts.size, sz1] at szc
  have okT5 : Ts.ok (.cons 4 ⟨#[102]⟩ 0 p5 c5 us5 (.cons 1 ⟨#[]⟩ 0 none 0 .nil .nil)) := ⟨by omega, by simp [ByteArray.size], by omega, hcl5, hpn5, OK5.out, by simp [Ts.ok, Ts.len, ByteArray.size]⟩
  have hall : alike usc (.cons 4 ⟨#[102]⟩ 0 p5 c5 us5 (.cons 1 ⟨#[]⟩ 0 none 0 .nil .nil)) = true := by
    rw [Ts.twin_alike _ _ _ TWC.out]
    simp only [renT, renT_twin stepC TW1.out, stepC, alike, Ts.twin_alike, beq_self_eq_true, Bool.true_and, Bool.and_true]
    rw [alike_symm, Ts.twin_alike _ _ _ TW5.out]
    decide +kernel
  have HALL := Lib.hid hall
  clear hall
  refine (all_any _ usc (.cons 4 ⟨#[102]⟩ 0 p5 c5 us5 (.cons 1 ⟨#[]⟩ 0 none 0 .nil .nil)) (Nat.lt_succ_self _) OKC.out okT5 (by omega) (by simp [Ts.len]) W28 qc _ usc.len 2 ATC.out (lies_two rfl CW28.out AT5.out (nilat _))).mono ?_
  rintro e w29 ⟨rfl, hB⟩
  rw [HALL.out]
  replace BW := BW.trans (hB.mono BW.size)
  replace AT1 := Lib.hid (AT1.out.below hB)
  replace ATC := Lib.hid (ATC.out.below hB)
  replace AT2 := Lib.hid (AT2.out.below hB)
  replace ATF := Lib.hid (ATF.out.below hB)
  replace AT3 := Lib.hid (AT3.out.below hB)
  replace ATG := Lib.hid (ATG.out.below hB)
  replace AT4 := Lib.hid (AT4.out.below hB)
  replace ATH := Lib.hid (ATH.out.below hB)
  replace AT5 := Lib.hid (AT5.out.below hB)
  clear hB
  have okL2 : Ts.ok (.cons 4 ⟨#[102]⟩ 0 p2 c2 us2 .nil) := ⟨by omega, by simp [ByteArray.size], by omega, hcl2, hpn2, OK2.out, trivial⟩
  have okL3 : Ts.ok (.cons 4 ⟨#[102]⟩ 0 p3 c3 us3 .nil) := ⟨by omega, by simp [ByteArray.size], by omega, hcl3, hpn3, OK3.out, trivial⟩
  have okL4 : Ts.ok (.cons 4 ⟨#[102]⟩ 0 p4 c4 us4 .nil) := ⟨by omega, by simp [ByteArray.size], by omega, hcl4, hpn4, OK4.out, trivial⟩
  have hv : varB (.cons 4 ⟨#[102]⟩ 0 p2 c2 us2 .nil) (.cons 4 ⟨#[102]⟩ 0 p3 c3 us3 .nil) [] [] = false := by
    simp only [varB, renT, renT_twin stepC TW2.out, renT_twin stepC TW3.out]
    decide +kernel
  have HV := Lib.hid hv
  clear hv
  go_wp2_with fail
  refine (variants_any (.cons 4 ⟨#[102]⟩ 0 p2 c2 us2 .nil) (.cons 4 ⟨#[102]⟩ 0 p3 c3 us3 .nil) (by simp [Ts.size, sz2]) (by simp [Ts.size, sz3]) okL2 okL3 w29 _ _ 1 1 ATF.out ATG.out).mono ?_
  rintro e w30 ⟨rfl, hB⟩
  rw [HV.out]
  clear HV
  replace BW := BW.trans (hB.mono BW.size)
  replace AT1 := Lib.hid (AT1.out.below hB)
  replace ATC := Lib.hid (ATC.out.below hB)
  replace AT2 := Lib.hid (AT2.out.below hB)
  replace ATF := Lib.hid (ATF.out.below hB)
  replace AT3 := Lib.hid (AT3.out.below hB)
  replace ATG := Lib.hid (ATG.out.below hB)
  replace AT4 := Lib.hid (AT4.out.below hB)
  replace ATH := Lib.hid (ATH.out.below hB)
  replace AT5 := Lib.hid (AT5.out.below hB)
  clear hB
  have hv : varB (.cons 4 ⟨#[102]⟩ 0 p3 c3 us3 .nil) (.cons 4 ⟨#[102]⟩ 0 p4 c4 us4 .nil) [] [] = true := by
    simp only [varB, renT, renT_twin stepC TW3.out, renT_twin stepC TW4.out]
    decide +kernel
  have HV := Lib.hid hv
  clear hv
  go_wp2_with fail
  refine (variants_any (.cons 4 ⟨#[102]⟩ 0 p3 c3 us3 .nil) (.cons 4 ⟨#[102]⟩ 0 p4 c4 us4 .nil) (by simp [Ts.size, sz3]) (by simp [Ts.size, sz4]) okL3 okL4 w30 _ _ 1 1 ATG.out ATH.out).mono ?_
  rintro e w31 ⟨rfl, hB⟩
  rw [HV.out]
  clear HV
  replace BW := BW.trans (hB.mono BW.size)
  replace AT1 := Lib.hid (AT1.out.below hB)
  replace ATC := Lib.hid (ATC.out.below hB)
  replace AT2 := Lib.hid (AT2.out.below hB)
  replace ATF := Lib.hid (ATF.out.below hB)
  replace AT3 := Lib.hid (AT3.out.below hB)
  replace ATG := Lib.hid (ATG.out.below hB)
  replace AT4 := Lib.hid (AT4.out.below hB)
  replace ATH := Lib.hid (ATH.out.below hB)
  replace AT5 := Lib.hid (AT5.out.below hB)
  clear hB
  go_wp2_with fail
  refine (V_any _ _).mono ?_
  rintro e w32 ⟨rfl, hB⟩
  unfold tv
  replace BW := BW.trans (hB.mono BW.size)
  replace AT1 := Lib.hid (AT1.out.below hB)
  replace ATC := Lib.hid (ATC.out.below hB)
  replace AT2 := Lib.hid (AT2.out.below hB)
  replace ATF := Lib.hid (ATF.out.below hB)
  replace AT3 := Lib.hid (AT3.out.below hB)
  replace ATG := Lib.hid (ATG.out.below hB)
  replace AT4 := Lib.hid (AT4.out.below hB)
  replace ATH := Lib.hid (ATH.out.below hB)
  replace AT5 := Lib.hid (AT5.out.below hB)
  clear hB
  go_wp2_with fail
  obtain ⟨W33, hW33, hsW33, hB, hcW33⟩ := box1 w32 #[Value.int IntKind.u8 1, Value.string { data := #[] }, Value.int IntKind.i64 2, Value.slice none 0 0] 24
  rw [← hW33]
  have ZW33 := Lib.hid hW33
  have CW33 := Lib.hid hcW33
  clear hW33 hsW33 hcW33
  replace BW := BW.trans (hB.mono BW.size)
  replace AT1 := Lib.hid (AT1.out.below hB)
  replace ATC := Lib.hid (ATC.out.below hB)
  replace AT2 := Lib.hid (AT2.out.below hB)
  replace ATF := Lib.hid (ATF.out.below hB)
  replace AT3 := Lib.hid (AT3.out.below hB)
  replace ATG := Lib.hid (ATG.out.below hB)
  replace AT4 := Lib.hid (AT4.out.below hB)
  replace ATH := Lib.hid (ATH.out.below hB)
  replace AT5 := Lib.hid (AT5.out.below hB)
  clear hB
  refine (F_any ⟨#[102]⟩ (.cons 1 ⟨#[]⟩ 2 none 0 .nil .nil) (by simp [Ts.size]) (by simp [Ts.ok, Ts.len, ByteArray.size]) W33 _ 1 (lies_one rfl CW33.out (nilat _))).mono ?_
  rintro e w34 ⟨us6, p6, c6, rfl, hat, htw, hok, hcl6, hpn6, hB⟩
  rw [if_neg (by simp [Ts.len])]
  unfold tv
  replace BW := BW.trans (hB.mono BW.size)
  replace AT1 := Lib.hid (AT1.out.below hB)
  replace ATC := Lib.hid (ATC.out.below hB)
  replace AT2 := Lib.hid (AT2.out.below hB)
  replace ATF := Lib.hid (ATF.out.below hB)
  replace AT3 := Lib.hid (AT3.out.below hB)
  replace ATG := Lib.hid (ATG.out.below hB)
  replace AT4 := Lib.hid (AT4.out.below hB)
  replace ATH := Lib.hid (ATH.out.below hB)
  replace AT5 := Lib.hid (AT5.out.below hB)
  clear hB
  have AT6 := Lib.hid hat.at
  have TW6 := Lib.hid htw
  have OK6 := Lib.hid hok
  clear hat htw hok
  go_wp2_with fail
  obtain ⟨W35, hW35, hsW35, hB, hcW35⟩ := box1 w34 #[Value.int IntKind.u8 4, Value.string { data := #[102] }, Value.int IntKind.i64 0, Value.slice p6 us6.len c6] 24
  rw [← hW35]
  have ZW35 := Lib.hid hW35
  have CW35 := Lib.hid hcW35
  clear hW35 hsW35 hcW35
  replace BW := BW.trans (hB.mono BW.size)
  replace AT1 := Lib.hid (AT1.out.below hB)
  replace ATC := Lib.hid (ATC.out.below hB)
  replace AT2 := Lib.hid (AT2.out.below hB)
  replace ATF := Lib.hid (ATF.out.below hB)
  replace AT3 := Lib.hid (AT3.out.below hB)
  replace ATG := Lib.hid (ATG.out.below hB)
  replace AT4 := Lib.hid (AT4.out.below hB)
  replace ATH := Lib.hid (ATH.out.below hB)
  replace AT5 := Lib.hid (AT5.out.below hB)
  replace AT6 := Lib.hid (AT6.out.below hB)
  clear hB
  have sz6 : us6.size = 1 := Ts.twin_size _ _ TW6.out
  have okL6 : Ts.ok (.cons 4 ⟨#[102]⟩ 0 p6 c6 us6 .nil) := ⟨by omega, by simp [ByteArray.size], by omega, hcl6, hpn6, OK6.out, trivial⟩
  have hc6 : cntL (.cons 4 ⟨#[102]⟩ 0 p6 c6 us6 .nil) = 3 := by
    simp only [cntL, cntL_twin TW6.out]
    decide +kernel
  have hf6 : numsFit (.cons 4 ⟨#[102]⟩ 0 p6 c6 us6 .nil) := ⟨fun h => by simp at h, (numsFit_twin TW6.out).2 ⟨fun _ => by omega, trivial, trivial⟩, trivial⟩
  have HC6 := Lib.hid hc6
  clear hc6
  refine (rcount_any _ (.cons 4 ⟨#[102]⟩ 0 p6 c6 us6 .nil) (Nat.lt_succ_self _) (by simp [Ts.size, sz6]) okL6 hf6 W35 _ 1 (lies_one rfl CW35.out AT6.out)).mono ?_
  rintro e w36 ⟨rfl, hB⟩
  rw [HC6.out]
  replace BW := BW.trans (hB.mono BW.size)
  replace AT1 := Lib.hid (AT1.out.below hB)
  replace ATC := Lib.hid (ATC.out.below hB)
  replace AT2 := Lib.hid (AT2.out.below hB)
  replace ATF := Lib.hid (ATF.out.below hB)
  replace AT3 := Lib.hid (AT3.out.below hB)
  replace ATG := Lib.hid (ATG.out.below hB)
  replace AT4 := Lib.hid (AT4.out.below hB)
  replace ATH := Lib.hid (ATH.out.below hB)
  replace AT5 := Lib.hid (AT5.out.below hB)
  replace AT6 := Lib.hid (AT6.out.below hB)
  clear hB
  go_wp2
  go_ret
  exact ⟨rfl, BW⟩
end Go.Proofs.Ytflomdnjabgnaaa
/-
  Layer 5: plain facts of shifted terms and of canonical forms.
-/
namespace Go.Proofs.Ytflomdnjabgnaaa
open Go.RowKit

/-- numbers of variables are none that are less than 0, and none beyond a bound -/
def numsIn (M : Int) : Ts → Prop
  | .nil => True
  | .cons k _ n _ _ kids rest => ((k == 1) = true → 0 ≤ n ∧ n ≤ M) ∧ numsIn M kids ∧ numsIn M rest

theorem numsIn_fit {M : Int} (hM : M < 4611686018427387904) : ∀ {ts : Ts}, numsIn M ts → numsFit ts
  | .nil, _ => trivial
  | .cons _ _ _ _ _ _ _, h => ⟨fun hk => by have := h.1 hk; omega, numsIn_fit hM h.2.1, numsIn_fit hM h.2.2⟩

theorem wrap64_in {x : Int} (h : -9223372036854775808 ≤ x ∧ x ≤ 9223372036854775807) : wrap64 x = x := by
  unfold wrap64
  omega

theorem shift_shift {M : Int} (hM : M ≤ 1099511627776) (a b : Int) (ha : 0 ≤ a ∧ a ≤ 1099511627776) (hb : 0 ≤ b ∧ b ≤ 1099511627776) : ∀ {ts : Ts}, numsIn M ts → (renT (stepS b) (renT (stepS a) ts ()).1 ()).1 = (renT (stepS (a + b)) ts ()).1
  | .nil, _ => rfl
  | .cons k s n p c kids rest, h => by
    have h1 := shift_shift hM a b ha hb h.2.1
    have h2 := shift_shift hM a b ha hb h.2.2
    have h3 : ∀ st : Unit, st = () := fun _ => rfl
    simp only [renT]
    have hn : (if (k == 1) = true then stepS b () (if (k == 1) = true then stepS a () n else (n, ())).1 else ((if (k == 1) = true then stepS a () n else (n, ())).1, ())).1 = (if (k == 1) = true then stepS (a + b) () n else (n, ())).1 := by
      by_cases hk : (k == 1) = true
      · simp only [hk, if_true, stepS]
        have := h.1 hk
        rw [wrap64_in (x := n + a) (by omega), wrap64_in (by omega), wrap64_in (by omega)]
        omega
      · simp only [hk, if_false, Bool.false_eq_true]
    rw [hn]
    congr 1

theorem shift_in {M : Int} (hM : M ≤ 1099511627776) (a : Int) (ha : 0 ≤ a ∧ a ≤ 1099511627776) : ∀ {ts : Ts}, numsIn M ts → numsIn (M + a) (renT (stepS a) ts ()).1
  | .nil, _ => trivial
  | .cons k s n p c kids rest, h => by
    refine ⟨fun hk => ?_, shift_in hM a ha h.2.1, shift_in hM a ha h.2.2⟩
    simp only [hk, if_true, stepS]
    have := h.1 hk
    rw [wrap64_in (by omega)]
    omega

theorem shift_cnt {M : Int} (hM : M ≤ 1099511627776) (a : Int) (ha : 0 ≤ a ∧ a ≤ 1099511627776) : ∀ {ts : Ts}, numsIn M ts → (noVar (nodesOf ts) = true → cntL (renT (stepS a) ts ()).1 = 0 ∧ cntL ts = 0) ∧ (noVar (nodesOf ts) = false → cntL (renT (stepS a) ts ()).1 = cntL ts + a.toNat)
  | .nil, _ => ⟨fun _ => ⟨rfl, rfl⟩, (fun h => by cases h)⟩
  | .cons k s n p c kids rest, h => by
    have h1 := shift_cnt hM a ha h.2.1
    have h2 := shift_cnt hM a ha h.2.2
    have hv : noVar (nodesOf (.cons k s n p c kids rest)) = (!(k == 1) && (noVar (nodesOf kids) && noVar (nodesOf rest))) := by
      simp only [noVar, nodesOf, List.all_cons, List.all_append]
    rw [hv]
    simp only [renT, cntL]
    have e1 : ∀ st : Unit, (renT (stepS a) rest st).1 = (renT (stepS a) rest ()).1 := fun _ => rfl
    have e2 : ∀ st : Unit, (renT (stepS a) kids st).1 = (renT (stepS a) kids ()).1 := fun _ => rfl
    rw [e1, e2]
    by_cases hk : (k == 1) = true
    · simp only [hk, if_true, stepS, Bool.not_true, Bool.false_and]
      have hn := h.1 hk
      rw [wrap64_in (by omega)]
      refine ⟨(fun h => by cases h), fun _ => ?_⟩
      have e3 : (n + a).toNat = n.toNat + a.toNat := by omega
      cases hvk : noVar (nodesOf kids) <;> cases hvr : noVar (nodesOf rest)
      · have := h1.2 hvk; have := h2.2 hvr; omega
      · have := h1.2 hvk; have := h2.1 hvr; omega
      · have := h1.1 hvk; have := h2.2 hvr; omega
      · have := h1.1 hvk; have := h2.1 hvr; omega
    · simp only [hk, if_false, Bool.false_eq_true]
      cases hvk : noVar (nodesOf kids) <;> cases hvr : noVar (nodesOf rest)
      · have := h1.2 hvk; have := h2.2 hvr; simp; omega
      · have := h1.2 hvk; have := h2.1 hvr; simp; omega
      · have := h1.1 hvk; have := h2.2 hvr; simp; omega
      · have := h1.1 hvk; have := h2.1 hvr; simp; omega

theorem stepC_new (st : List Int) (n : Int) : (stepC st n).2 = newNum st (1, n) := by
  unfold stepC newNum
  split
  · rfl
  · rfl

theorem canon_state : ∀ (ts : Ts) (st : List Int), (renT stepC ts st).2 = ((nodesOf ts).map Ts.mark).foldl newNum st
  | .nil, _ => rfl
  | .cons k s n p c kids rest, st => by
    simp only [renT, nodesOf, List.map_cons, List.map_append, List.foldl_cons, List.foldl_append]
    rw [canon_state rest, canon_state kids]
    congr 2
    by_cases hk : (k == 1) = true
    · rw [if_pos hk, stepC_new]
      have : k = 1 := by simpa using hk
      rw [this]; rfl
    · rw [if_neg hk]
      show st = newNum st (k, n)
      rw [newNum, if_neg hk]

theorem stepC_cnt (st : List Int) (n : Int) : 0 ≤ (stepC st n).1 ∧ max st.length ((stepC st n).1.toNat + 1) = (stepC st n).2.length := by
  unfold stepC
  split
  · rename_i h
    have hm : n ∈ st := by simpa using h
    have := List.idxOf_lt_length_iff.2 hm
    simp only
    omega
  · simp only [List.length_append, List.length_cons, List.length_nil]
    omega

theorem canon_cnt : ∀ (ts : Ts) (st : List Int), max st.length (cntL (renT stepC ts st).1) = (renT stepC ts st).2.length
  | .nil, st => by simp [renT, cntL]
  | .cons k s n p c kids rest, st => by
    simp only [renT, cntL]
    have h1 := canon_cnt kids (if (k == 1) = true then stepC st n else (n, st)).2
    have h2 := canon_cnt rest (renT stepC kids (if (k == 1) = true then stepC st n else (n, st)).2).2
    by_cases hk : (k == 1) = true
    · simp only [hk, if_true] at h1 h2 ⊢
      have h3 := stepC_cnt st n
      omega
    · simp only [hk, if_false, Bool.false_eq_true] at h1 h2 ⊢
      omega

theorem canon_in : ∀ (ts : Ts) (st : List Int), st.length + ts.size ≤ 1000000 → numsIn 1000000 (renT stepC ts st).1
  | .nil, _, _ => trivial
  | .cons k s n p c kids rest, st, h => by
    simp only [Ts.size] at h
    have hg : ∀ st n, (stepC st n).2.length ≤ st.length + 1 := fun st n => (nm_counter 0 1 0 2 (by omega) (by omega) (by omega) (by omega)).grow st n
    have h0 : (if (k == 1) = true then stepC st n else (n, st)).2.length ≤ st.length + 1 := by
      split
      · exact hg st n
      · simp
    have h1 := renT_cnt stepC List.length hg kids (if (k == 1) = true then stepC st n else (n, st)).2
    refine ⟨fun hk => ?_, canon_in kids _ (by omega), canon_in rest _ (by omega)⟩
    simp only [hk, if_true]
    have h3 := stepC_cnt st n
    have h4 := hg st n
    omega

/-- the numbers of a good term's variables, none beyond a bound -/
theorem good_in {M : Int} : ∀ {ts : Ts}, shapeL ts = true → (∀ x ∈ (nodesOf ts).map Ts.mark, (x.1 == 1) = true → x.2 ≤ M) → numsIn M ts
  | .nil, _, _ => trivial
  | .cons k s n p c kids rest, hs, hb => by
    simp only [shapeL, Bool.and_eq_true] at hs
    refine ⟨fun hk => ⟨?_, hb (k, n) (by simp [nodesOf, Ts.mark]) hk⟩, good_in hs.1.1 (fun x hx => hb x (by simp only [nodesOf, List.map_cons, List.map_append]; exact List.mem_cons_of_mem _ (List.mem_append_left _ hx))), good_in hs.2 (fun x hx => hb x (by simp only [nodesOf, List.map_cons, List.map_append]; exact List.mem_cons_of_mem _ (List.mem_append_right _ hx)))⟩
    have h1 := hs.1.2
    have hk1 : k = 1 := by simpa using hk
    rw [headB, if_pos hk1] at h1
    simp only [Bool.and_eq_true, decide_eq_true_eq] at h1
    exact h1.1
end Go.Proofs.Ytflomdnjabgnaaa
