import Derived.Test.YtnmhnaanpjlniaaGreatFn
/-
  The law BuiltinSides, walked. (Written by gen_fu.py.)
-/
namespace Go.Proofs.YtnmhnaanpjlniaaGreat
open Go.RowKit

theorem App.cross {σ ρ : Sb} (h : STw σ ρ) (hE : Ends σ) {l' : List Nd} {us : Ts} (ha : App ρ l' us) : ∀ {l : List Nd}, TwL l l' → App σ l us := by
  induction ha with
  | nil => intro l hl; cases hl; exact .nil
  | @cons t rest p c ks rs _ _ ih ih' =>
    intro l hl
    cases hl with
    | cons g g' =>
      have hw := h.wk hE g
      have e := App.cons (p := p) (c := c) (ih (elems_tw hw.2.2.2)) (ih' g')
      rw [hw.1, hw.2.1, hw.2.2.1] at e
      exact e
theorem Ap.cross {σ ρ : Sb} (h : STw σ ρ) (hE : Ends σ) {t U : Nd} (ha : Ap ρ t U) : Ap σ t U := by
  have hw := h.wk hE (Nd.twin_refl t)
  exact ⟨ha.k.trans hw.1.symm, ha.s.trans hw.2.1.symm, ha.n.trans hw.2.2.1.symm, ha.app.cross h hE (elems_tw hw.2.2.2), ha.ok, ha.cap, ha.nn, ha.sz⟩
theorem GN_good {x : Nd} (h : gdB x = true) : GN x := ⟨good_nd h, name_nd h⟩
theorem hz_good {σ : Sb} {a b U V : Nd} (hU : Ap σ a U) (hV : Ap σ b V) (gU : gdB U = true) (gV : gdB V = true) : (ordN (apX σ a) (apX σ b)).2 = true → ((ordN (apX σ a) (apX σ b)).1 = 0 ↔ sameB (apX σ a) (apX σ b) = true) := by
  rw [← ordN_twin (apX_tw hU) (apX_tw hV), ← sameB_twin (apX_tw hU) (apX_tw hV)]
  exact zero_same (good_shape gU) (good_shape gV)

set_option maxRecDepth 100000 in
set_option maxHeartbeats 16000000 in
theorem builtinSides_true (l : List (Int × Nd)) (hl63 : l.length ≤ 9223372036854775807) (hbok : (bsTs l).ok) (hvr : ∀ e ∈ l, -9223372036854775808 ≤ e.1 ∧ e.1 ≤ 9223372036854775807) (a b : Nd) (w : World) (lp : Option Addr) (lc : Nat) (hatl : BsAt w lp l) (hoka : Ts.ok (.cons a.k a.s a.n a.p a.c a.kids .nil)) (hata : Ts.At w a.p a.kids) (hokb : Ts.ok (.cons b.k b.s b.n b.p b.c b.kids .nil)) (hatb : Ts.At w b.p b.kids) :
    Calls Tryz.prog 4 #[.slice lp l.length lc, .agg #[.int .u8 a.k, .string a.s, .int .i64 a.n, .slice a.p a.kids.len a.c], .agg #[.int .u8 b.k, .string b.s, .int .i64 b.n, .slice b.p b.kids.len b.c]] w fun e w' => e = .returned (.bool true) ∧ Below w.heap.size w w' := by
  have BOK := Lib.hid hbok
  have VR := Lib.hid hvr
  have ATl := Lib.hid hatl
  have OKa := Lib.hid (show a.ok from hoka)
  have OKb := Lib.hid (show b.ok from hokb)
  have ATa := Lib.hid hata
  have ATb := Lib.hid hatb
  clear hbok hvr hatl hoka hokb hata hatb
  go_enter Tryz.func4, Tryz.ntmps4
  go_upto_region 1 with fail
  obtain ⟨W2, hW2, hB, hba, hbb⟩ := box2N w a b 25
  rw [← hW2]
  have XT := Lib.hid hba
  have XO := Lib.hid hbb
  have BW := Lib.hid hB
  clear hba hbb hB hW2
  have c0 := XT.out.c0
  have c1 := XT.out.c1
  have c2 := XT.out.c2
  have c3 := XT.out.c3
  go_wp2_with fail
  refine (bgreat_any l a hl63 BOK.out W2 lp lc (ATl.out.below BW.out) OKa.out (ATa.out.below BW.out)).mono ?_
  rintro e w2 ⟨rfl, hI⟩
  replace XT := Lib.hid (XT.out.below hI)
  replace XO := Lib.hid (XO.out.below hI)
  replace BW := Lib.hid (BW.out.trans (hI.mono BW.out.size))
  clear hI
  clear c0 c1 c2 c3
  obtain ⟨ga0, hga0⟩ : ∃ g, g = bGreat l a := ⟨_, rfl⟩
  rw [← hga0]
  have Gga0 := Lib.hid hga0
  clear hga0
  cases ga0 with
  | true =>
    go_wp2_with fail
    refine (wakes14_any _).mono ?_
    rintro e we ⟨rfl, hB⟩
    replace BW := Lib.hid (BW.out.trans (hB.mono BW.out.size))
    clear hB
    go_wp2
    go_ret
    exact ⟨rfl, BW.out⟩
  | false =>
  have c0 := XO.out.c0
  have c1 := XO.out.c1
  have c2 := XO.out.c2
  have c3 := XO.out.c3
  go_wp2_with fail
  refine (bgreat_any [] b (by simp) trivial w2 none 0 ⟨0, 0, .inl rfl, trivial⟩ OKb.out (ATb.out.below BW.out)).mono ?_
  rintro e w3 ⟨rfl, hI⟩
  replace XT := Lib.hid (XT.out.below hI)
  replace XO := Lib.hid (XO.out.below hI)
  replace BW := Lib.hid (BW.out.trans (hI.mono BW.out.size))
  clear hI
  clear c0 c1 c2 c3
  obtain ⟨gb0, hgb0⟩ : ∃ g, g = bGreat [] b := ⟨_, rfl⟩
  rw [← hgb0]
  have Ggb0 := Lib.hid hgb0
  clear hgb0
  cases gb0 with
  | true =>
    go_wp2_with fail
    refine (wakes14_any _).mono ?_
    rintro e we ⟨rfl, hB⟩
    replace BW := Lib.hid (BW.out.trans (hB.mono BW.out.size))
    clear hB
    go_wp2
    go_ret
    exact ⟨rfl, BW.out⟩
  | false =>
  have hsa0 := bGreat_1000 Gga0.out.symm
  have hsb0 := bGreat_1000 Ggb0.out.symm
  obtain ⟨hl40, hst5, hbs⟩ := bGreat_size Gga0.out.symm
  have c0 := XT.out.c0
  have c1 := XT.out.c1
  have c2 := XT.out.c2
  have c3 := XT.out.c3
  go_wp2_with fail
  refine (rGood_any a.kids (by omega) OKa.out.2.2.2.2.2.1 a.k a.s a.n w3 a.p a.c OKa.out.2.1 (ATa.out.below BW.out)).mono ?_
  rintro e w4 ⟨rfl, hI⟩
  replace XT := Lib.hid (XT.out.below hI)
  replace XO := Lib.hid (XO.out.below hI)
  replace BW := Lib.hid (BW.out.trans (hI.mono BW.out.size))
  clear hI
  clear c0 c1 c2 c3
  obtain ⟨ga, hga⟩ : ∃ g, g = goodB 64 a.k a.s a.n a.kids := ⟨_, rfl⟩
  rw [← hga]
  have Ga := Lib.hid hga
  clear hga
  cases ga with
  | false =>
    go_wp2_with fail
    refine (wakes14_any _).mono ?_
    rintro e we ⟨rfl, hB⟩
    replace BW := Lib.hid (BW.out.trans (hB.mono BW.out.size))
    clear hB
    go_wp2
    go_ret
    exact ⟨rfl, BW.out⟩
  | true =>
  have c0 := XO.out.c0
  have c1 := XO.out.c1
  have c2 := XO.out.c2
  have c3 := XO.out.c3
  go_wp2_with fail
  refine (rGood_any b.kids (by omega) OKb.out.2.2.2.2.2.1 b.k b.s b.n w4 b.p b.c OKb.out.2.1 (ATb.out.below BW.out)).mono ?_
  rintro e w5 ⟨rfl, hI⟩
  replace XT := Lib.hid (XT.out.below hI)
  replace XO := Lib.hid (XO.out.below hI)
  replace BW := Lib.hid (BW.out.trans (hI.mono BW.out.size))
  clear hI
  clear c0 c1 c2 c3
  obtain ⟨gb, hgb⟩ : ∃ g, g = goodB 64 b.k b.s b.n b.kids := ⟨_, rfl⟩
  rw [← hgb]
  have Gb := Lib.hid hgb
  clear hgb
  cases gb with
  | false =>
    go_wp2_with fail
    refine (wakes14_any _).mono ?_
    rintro e we ⟨rfl, hB⟩
    replace BW := Lib.hid (BW.out.trans (hB.mono BW.out.size))
    clear hB
    go_wp2
    go_ret
    exact ⟨rfl, BW.out⟩
  | true =>
  go_wp2_with fail
  refine (bad_any l ⟨0, ⟨#[]⟩, 0, none, 0, .nil⟩ hl40 BOK.out hbs w5 lp lc (ATl.out.below BW.out) ⟨by simp, by simp [ByteArray.size], by simp, by simp [Ts.len], fun _ => rfl, trivial, trivial⟩ ⟨0, 0, .inl rfl, trivial⟩ (by simp [Ts.size])).mono ?_
  rintro e w6 ⟨rfl, hI⟩
  replace XT := Lib.hid (XT.out.below hI)
  replace XO := Lib.hid (XO.out.below hI)
  replace BW := Lib.hid (BW.out.trans (hI.mono BW.out.size))
  clear hI
  rw [show badT (Ts.nil) = 0 from rfl, Nat.add_zero]
  by_cases hbad : 0 < badL l
  · have hb1 : (0 : Int) < ((badL l : Nat) : Int) := by omega
    go_wp2_with fail
    refine (wakes14_any _).mono ?_
    rintro e we ⟨rfl, hB⟩
    replace BW := Lib.hid (BW.out.trans (hB.mono BW.out.size))
    clear hB
    go_wp2
    go_ret
    exact ⟨rfl, BW.out⟩
  have hb0 : badL l = 0 := by omega
  have HB0 := Lib.hid hb0
  rw [hb0]
  clear hbad hb0
  go_wp2_with fail
  refine (make_full l hl40 BOK.out hbs VR.out w6 lp lc (ATl.out.below BW.out)).mono ?_
  rintro e w7 ⟨had, σ, q9, c9, rfl, hhl, hS, hST, hch, hI, hba, hsm⟩
  have SB := Lib.hid hS
  have STW := Lib.hid hST
  have BA := Lib.hid hba
  have CN := Lib.hid (hch.cand (fun e he => GN_good (badL_none HB0.out e he)) hST)
  have SM := Lib.hid (small_of hsm)
  have EL := Lib.hid (hST.ends hS.ends)
  obtain ⟨S, hSe⟩ : ∃ S, S = w6.heap.size := ⟨_, rfl⟩
  obtain ⟨M, hM⟩ : ∃ M, M = had.length := ⟨_, rfl⟩
  rw [← hSe] at SB ⊢
  rw [← hM] at SB
  have hM40 : M ≤ 40 := by omega
  have hhl1 : had.length ≤ 1000000 := by omega
  replace XT := Lib.hid (XT.out.below hI)
  replace XO := Lib.hid (XO.out.below hI)
  replace BW := Lib.hid (BW.out.trans (hI.mono BW.out.size))
  replace ATa := Lib.hid (ATa.out.below BW.out)
  replace ATb := Lib.hid (ATb.out.below BW.out)
  clear hI hSe hM hS hST hch hhl hba hsm
  have c0 := XT.out.c0
  have c1 := XT.out.c1
  have c2 := XT.out.c2
  have c3 := XT.out.c3
  go_wp2_with fail
  refine (deep_any had hhl1 EL.out SM.out w7 q9 c9 BA.out a OKa.out (by omega) ATa.out).mono ?_
  rintro e w8 ⟨va, rfl, hva, hI⟩
  have VA := Lib.hid hva
  clear hva
  replace XT := Lib.hid (XT.out.below hI)
  replace XO := Lib.hid (XO.out.below hI)
  replace SB := Lib.hid (SB.out.below hI)
  replace BA := Lib.hid (BA.out.below hI)
  replace ATa := Lib.hid (ATa.out.below hI)
  replace ATb := Lib.hid (ATb.out.below hI)
  replace BW := Lib.hid (BW.out.trans (hI.mono BW.out.size))
  clear hI
  clear c0 c1 c2 c3
  cases va with
  | true =>
    go_wp2_with fail
    refine (wakes14_any _).mono ?_
    rintro e we ⟨rfl, hB⟩
    replace BW := Lib.hid (BW.out.trans (hB.mono BW.out.size))
    clear hB
    go_wp2
    go_ret
    exact ⟨rfl, BW.out⟩
  | false =>
  obtain ⟨U, hU, gU⟩ := VA.out rfl
  have AU := Lib.hid (hU.cross STW.out SB.out.ends)
  have GU := Lib.hid gU
  clear hU gU VA
  have d0 := XO.out.c0
  have d1 := XO.out.c1
  have d2 := XO.out.c2
  have d3 := XO.out.c3
  go_wp2_with fail
  refine (deep_any had hhl1 EL.out SM.out w8 q9 c9 BA.out b OKb.out (by omega) ATb.out).mono ?_
  rintro e w9 ⟨vb, rfl, hvb, hI⟩
  have VB := Lib.hid hvb
  clear hvb
  replace XT := Lib.hid (XT.out.below hI)
  replace XO := Lib.hid (XO.out.below hI)
  replace SB := Lib.hid (SB.out.below hI)
  replace BA := Lib.hid (BA.out.below hI)
  replace ATa := Lib.hid (ATa.out.below hI)
  replace ATb := Lib.hid (ATb.out.below hI)
  replace BW := Lib.hid (BW.out.trans (hI.mono BW.out.size))
  clear hI
  clear d0 d1 d2 d3
  cases vb with
  | true =>
    go_wp2_with fail
    refine (wakes14_any _).mono ?_
    rintro e we ⟨rfl, hB⟩
    replace BW := Lib.hid (BW.out.trans (hB.mono BW.out.size))
    clear hB
    go_wp2
    go_ret
    exact ⟨rfl, BW.out⟩
  | false =>
  obtain ⟨V, hV, gV⟩ := VB.out rfl
  have AV := Lib.hid (hV.cross STW.out SB.out.ends)
  have GV := Lib.hid gV
  have HZ := Lib.hid (hz_good AU.out AV.out GU.out GV.out)
  clear hV gV VB BA
  obtain ⟨N9, hN9⟩ : ∃ W, W = w9.alloc (.cells #[.string ⟨#[61]⟩, .string ⟨#[92, 61]⟩] 9) := ⟨_, rfl⟩
  have hI : Below w9.heap.size w9 N9 := by rw [hN9]; exact (Below.refl _ _).alloc (Nat.le_refl _) _
  have XT_ := XT.out.below hI
  have XO_ := XO.out.below hI
  have c0 := XT_.c0
  have d0 := XO_.c0
  have c1 := XT_.c1
  have d1 := XO_.c1
  have c2 := XT_.c2
  have d2 := XO_.c2
  have c3 := XT_.c3
  have d3 := XO_.c3
  have ZN := Lib.hid hN9
  rw [hN9] at c0 c1 c2 c3 d0 d1 d2 d3
  have NM := Lib.hid (show NamesAt w9.heap.size [2, 3] N9 from fun i hi => by
    rw [hN9]
    match i, hi with
    | 0, _ | 1, _ => simp [doSym])
  clear hN9 XT_ XO_
  go_wp2_with fail
  rw [← ZN.out]
  clear ZN
  clear c0 c1 c2 c3 d0 d1 d2 d3
  replace XT := Lib.hid (XT.out.below hI)
  replace XO := Lib.hid (XO.out.below hI)
  replace SB := Lib.hid (SB.out.below hI)
  replace ATa := Lib.hid (ATa.out.below hI)
  replace ATb := Lib.hid (ATb.out.below hI)
  replace BW := Lib.hid (BW.out.trans (hI.mono BW.out.size))
  clear hI
  refine (one_any [2, 3] (by decide) (by decide) S σ M (by omega) N9 SB.out w9.heap.size NM.out a b OKa.out OKb.out ATa.out ATb.out (by omega) (by omega)).mono ?_
  rintro e w10 ⟨rfl, hI⟩
  rw [show oneF (([2, 3] : List Nat).map (doV σ M a b)) 0 = true from one_un σ M a b]
  clear NM
  replace XT := Lib.hid (XT.out.below hI)
  replace XO := Lib.hid (XO.out.below hI)
  replace SB := Lib.hid (SB.out.below hI)
  replace ATa := Lib.hid (ATa.out.below hI)
  replace ATb := Lib.hid (ATb.out.below hI)
  replace BW := Lib.hid (BW.out.trans (hI.mono BW.out.size))
  clear hI
  obtain ⟨N10, hN10⟩ : ∃ W, W = w10.alloc (.cells #[.string ⟨#[61, 61]⟩, .string ⟨#[92, 61, 61]⟩] 9) := ⟨_, rfl⟩
  have hI : Below w10.heap.size w10 N10 := by rw [hN10]; exact (Below.refl _ _).alloc (Nat.le_refl _) _
  have XT_ := XT.out.below hI
  have XO_ := XO.out.below hI
  have c0 := XT_.c0
  have d0 := XO_.c0
  have c1 := XT_.c1
  have d1 := XO_.c1
  have c2 := XT_.c2
  have d2 := XO_.c2
  have c3 := XT_.c3
  have d3 := XO_.c3
  have ZN := Lib.hid hN10
  rw [hN10] at c0 c1 c2 c3 d0 d1 d2 d3
  have NM := Lib.hid (show NamesAt w10.heap.size [4, 5] N10 from fun i hi => by
    rw [hN10]
    match i, hi with
    | 0, _ | 1, _ => simp [doSym])
  clear hN10 XT_ XO_
  go_wp2_with fail
  rw [← ZN.out]
  clear ZN
  clear c0 c1 c2 c3 d0 d1 d2 d3
  replace XT := Lib.hid (XT.out.below hI)
  replace XO := Lib.hid (XO.out.below hI)
  replace SB := Lib.hid (SB.out.below hI)
  replace ATa := Lib.hid (ATa.out.below hI)
  replace ATb := Lib.hid (ATb.out.below hI)
  replace BW := Lib.hid (BW.out.trans (hI.mono BW.out.size))
  clear hI
  refine (one_any [4, 5] (by decide) (by decide) S σ M (by omega) N10 SB.out w10.heap.size NM.out a b OKa.out OKb.out ATa.out ATb.out (by omega) (by omega)).mono ?_
  rintro e w11 ⟨rfl, hI⟩
  rw [show oneF (([4, 5] : List Nat).map (doV σ M a b)) 0 = true from one1_same σ M a b]
  clear NM
  replace XT := Lib.hid (XT.out.below hI)
  replace XO := Lib.hid (XO.out.below hI)
  replace SB := Lib.hid (SB.out.below hI)
  replace ATa := Lib.hid (ATa.out.below hI)
  replace ATb := Lib.hid (ATb.out.below hI)
  replace BW := Lib.hid (BW.out.trans (hI.mono BW.out.size))
  clear hI
  obtain ⟨N11, hN11⟩ : ∃ W, W = w11.alloc (.cells #[.string ⟨#[64, 60]⟩, .string ⟨#[61, 61]⟩, .string ⟨#[64, 62]⟩] 9) := ⟨_, rfl⟩
  have hI : Below w11.heap.size w11 N11 := by rw [hN11]; exact (Below.refl _ _).alloc (Nat.le_refl _) _
  have XT_ := XT.out.below hI
  have XO_ := XO.out.below hI
  have c0 := XT_.c0
  have d0 := XO_.c0
  have c1 := XT_.c1
  have d1 := XO_.c1
  have c2 := XT_.c2
  have d2 := XO_.c2
  have c3 := XT_.c3
  have d3 := XO_.c3
  have ZN := Lib.hid hN11
  rw [hN11] at c0 c1 c2 c3 d0 d1 d2 d3
  have NM := Lib.hid (show NamesAt w11.heap.size [6, 4, 7] N11 from fun i hi => by
    rw [hN11]
    match i, hi with
    | 0, _ | 1, _ | 2, _ => simp [doSym])
  clear hN11 XT_ XO_
  go_wp2_with fail
  rw [← ZN.out]
  clear ZN
  clear c0 c1 c2 c3 d0 d1 d2 d3
  replace XT := Lib.hid (XT.out.below hI)
  replace XO := Lib.hid (XO.out.below hI)
  replace SB := Lib.hid (SB.out.below hI)
  replace ATa := Lib.hid (ATa.out.below hI)
  replace ATb := Lib.hid (ATb.out.below hI)
  replace BW := Lib.hid (BW.out.trans (hI.mono BW.out.size))
  clear hI
  refine (one_any [6, 4, 7] (by decide) (by decide) S σ M (by omega) N11 SB.out w11.heap.size NM.out a b OKa.out OKb.out ATa.out ATb.out (by omega) (by omega)).mono ?_
  rintro e w12 ⟨rfl, hI⟩
  rw [show oneF (([6, 4, 7] : List Nat).map (doV σ M a b)) 0 = true from one_three σ M a b HZ.out]
  clear NM
  replace XT := Lib.hid (XT.out.below hI)
  replace XO := Lib.hid (XO.out.below hI)
  replace SB := Lib.hid (SB.out.below hI)
  replace ATa := Lib.hid (ATa.out.below hI)
  replace ATb := Lib.hid (ATb.out.below hI)
  replace BW := Lib.hid (BW.out.trans (hI.mono BW.out.size))
  clear hI
  obtain ⟨N12, hN12⟩ : ∃ W, W = w12.alloc (.cells #[.string ⟨#[64, 61, 60]⟩, .string ⟨#[64, 62]⟩] 9) := ⟨_, rfl⟩
  have hI : Below w12.heap.size w12 N12 := by rw [hN12]; exact (Below.refl _ _).alloc (Nat.le_refl _) _
  have XT_ := XT.out.below hI
  have XO_ := XO.out.below hI
  have c0 := XT_.c0
  have d0 := XO_.c0
  have c1 := XT_.c1
  have d1 := XO_.c1
  have c2 := XT_.c2
  have d2 := XO_.c2
  have c3 := XT_.c3
  have d3 := XO_.c3
  have ZN := Lib.hid hN12
  rw [hN12] at c0 c1 c2 c3 d0 d1 d2 d3
  have NM := Lib.hid (show NamesAt w12.heap.size [8, 7] N12 from fun i hi => by
    rw [hN12]
    match i, hi with
    | 0, _ | 1, _ => simp [doSym])
  clear hN12 XT_ XO_
  go_wp2_with fail
  rw [← ZN.out]
  clear ZN
  clear c0 c1 c2 c3 d0 d1 d2 d3
  replace XT := Lib.hid (XT.out.below hI)
  replace XO := Lib.hid (XO.out.below hI)
  replace SB := Lib.hid (SB.out.below hI)
  replace ATa := Lib.hid (ATa.out.below hI)
  replace ATb := Lib.hid (ATb.out.below hI)
  replace BW := Lib.hid (BW.out.trans (hI.mono BW.out.size))
  clear hI
  refine (one_any [8, 7] (by decide) (by decide) S σ M (by omega) N12 SB.out w12.heap.size NM.out a b OKa.out OKb.out ATa.out ATb.out (by omega) (by omega)).mono ?_
  rintro e w13 ⟨rfl, hI⟩
  rw [show oneF (([8, 7] : List Nat).map (doV σ M a b)) 0 = true from (one_ord σ M a b).1]
  clear NM
  replace XT := Lib.hid (XT.out.below hI)
  replace XO := Lib.hid (XO.out.below hI)
  replace SB := Lib.hid (SB.out.below hI)
  replace ATa := Lib.hid (ATa.out.below hI)
  replace ATb := Lib.hid (ATb.out.below hI)
  replace BW := Lib.hid (BW.out.trans (hI.mono BW.out.size))
  clear hI
  obtain ⟨N13, hN13⟩ : ∃ W, W = w13.alloc (.cells #[.string ⟨#[64, 60]⟩, .string ⟨#[64, 62, 61]⟩] 9) := ⟨_, rfl⟩
  have hI : Below w13.heap.size w13 N13 := by rw [hN13]; exact (Below.refl _ _).alloc (Nat.le_refl _) _
  have XT_ := XT.out.below hI
  have XO_ := XO.out.below hI
  have c0 := XT_.c0
  have d0 := XO_.c0
  have c1 := XT_.c1
  have d1 := XO_.c1
  have c2 := XT_.c2
  have d2 := XO_.c2
  have c3 := XT_.c3
  have d3 := XO_.c3
  have ZN := Lib.hid hN13
  rw [hN13] at c0 c1 c2 c3 d0 d1 d2 d3
  have NM := Lib.hid (show NamesAt w13.heap.size [6, 9] N13 from fun i hi => by
    rw [hN13]
    match i, hi with
    | 0, _ | 1, _ => simp [doSym])
  clear hN13 XT_ XO_
  go_wp2_with fail
  rw [← ZN.out]
  clear ZN
  clear c0 c1 c2 c3 d0 d1 d2 d3
  replace XT := Lib.hid (XT.out.below hI)
  replace XO := Lib.hid (XO.out.below hI)
  replace SB := Lib.hid (SB.out.below hI)
  replace ATa := Lib.hid (ATa.out.below hI)
  replace ATb := Lib.hid (ATb.out.below hI)
  replace BW := Lib.hid (BW.out.trans (hI.mono BW.out.size))
  clear hI
  refine (one_any [6, 9] (by decide) (by decide) S σ M (by omega) N13 SB.out w13.heap.size NM.out a b OKa.out OKb.out ATa.out ATb.out (by omega) (by omega)).mono ?_
  rintro e w14 ⟨rfl, hI⟩
  rw [show oneF (([6, 9] : List Nat).map (doV σ M a b)) 0 = true from (one_ord σ M a b).2]
  clear NM
  replace XT := Lib.hid (XT.out.below hI)
  replace XO := Lib.hid (XO.out.below hI)
  replace SB := Lib.hid (SB.out.below hI)
  replace ATa := Lib.hid (ATa.out.below hI)
  replace ATb := Lib.hid (ATb.out.below hI)
  replace BW := Lib.hid (BW.out.trans (hI.mono BW.out.size))
  clear hI
  obtain ⟨N14, hN14⟩ : ∃ W, W = w14.alloc (.cells #[.string ⟨#[60]⟩, .string ⟨#[61, 58, 61]⟩, .string ⟨#[62]⟩] 9) := ⟨_, rfl⟩
  have hI : Below w14.heap.size w14 N14 := by rw [hN14]; exact (Below.refl _ _).alloc (Nat.le_refl _) _
  have XT_ := XT.out.below hI
  have XO_ := XO.out.below hI
  have c0 := XT_.c0
  have d0 := XO_.c0
  have c1 := XT_.c1
  have d1 := XO_.c1
  have c2 := XT_.c2
  have d2 := XO_.c2
  have c3 := XT_.c3
  have d3 := XO_.c3
  have ZN := Lib.hid hN14
  rw [hN14] at c0 c1 c2 c3 d0 d1 d2 d3
  have NM := Lib.hid (show NamesAt w14.heap.size [13, 11, 14] N14 from fun i hi => by
    rw [hN14]
    match i, hi with
    | 0, _ | 1, _ | 2, _ => simp [doSym])
  clear hN14 XT_ XO_
  go_wp2_with fail
  rw [← ZN.out]
  clear ZN
  clear c0 c1 c2 c3 d0 d1 d2 d3
  replace XT := Lib.hid (XT.out.below hI)
  replace XO := Lib.hid (XO.out.below hI)
  replace SB := Lib.hid (SB.out.below hI)
  replace ATa := Lib.hid (ATa.out.below hI)
  replace ATb := Lib.hid (ATb.out.below hI)
  replace BW := Lib.hid (BW.out.trans (hI.mono BW.out.size))
  clear hI
  refine (one_any [13, 11, 14] (by decide) (by decide) S σ M (by omega) N14 SB.out w14.heap.size NM.out a b OKa.out OKb.out ATa.out ATb.out (by omega) (by omega)).mono ?_
  rintro e w15 ⟨rfl, hI⟩
  rw [show oneF (([13, 11, 14] : List Nat).map (doV σ M a b)) 0 = true from (one_num σ M a b).1]
  clear NM
  replace XT := Lib.hid (XT.out.below hI)
  replace XO := Lib.hid (XO.out.below hI)
  replace SB := Lib.hid (SB.out.below hI)
  replace ATa := Lib.hid (ATa.out.below hI)
  replace ATb := Lib.hid (ATb.out.below hI)
  replace BW := Lib.hid (BW.out.trans (hI.mono BW.out.size))
  clear hI
  obtain ⟨N15, hN15⟩ : ∃ W, W = w15.alloc (.cells #[.string ⟨#[61, 60]⟩, .string ⟨#[62]⟩] 9) := ⟨_, rfl⟩
  have hI : Below w15.heap.size w15 N15 := by rw [hN15]; exact (Below.refl _ _).alloc (Nat.le_refl _) _
  have XT_ := XT.out.below hI
  have XO_ := XO.out.below hI
  have c0 := XT_.c0
  have d0 := XO_.c0
  have c1 := XT_.c1
  have d1 := XO_.c1
  have c2 := XT_.c2
  have d2 := XO_.c2
  have c3 := XT_.c3
  have d3 := XO_.c3
  have ZN := Lib.hid hN15
  rw [hN15] at c0 c1 c2 c3 d0 d1 d2 d3
  have NM := Lib.hid (show NamesAt w15.heap.size [15, 14] N15 from fun i hi => by
    rw [hN15]
    match i, hi with
    | 0, _ | 1, _ => simp [doSym])
  clear hN15 XT_ XO_
  go_wp2_with fail
  rw [← ZN.out]
  clear ZN
  clear c0 c1 c2 c3 d0 d1 d2 d3
  replace XT := Lib.hid (XT.out.below hI)
  replace XO := Lib.hid (XO.out.below hI)
  replace SB := Lib.hid (SB.out.below hI)
  replace ATa := Lib.hid (ATa.out.below hI)
  replace ATb := Lib.hid (ATb.out.below hI)
  replace BW := Lib.hid (BW.out.trans (hI.mono BW.out.size))
  clear hI
  refine (one_any [15, 14] (by decide) (by decide) S σ M (by omega) N15 SB.out w15.heap.size NM.out a b OKa.out OKb.out ATa.out ATb.out (by omega) (by omega)).mono ?_
  rintro e w16 ⟨rfl, hI⟩
  rw [show oneF (([15, 14] : List Nat).map (doV σ M a b)) 0 = true from (one_num σ M a b).2.1]
  clear NM
  replace XT := Lib.hid (XT.out.below hI)
  replace XO := Lib.hid (XO.out.below hI)
  replace SB := Lib.hid (SB.out.below hI)
  replace ATa := Lib.hid (ATa.out.below hI)
  replace ATb := Lib.hid (ATb.out.below hI)
  replace BW := Lib.hid (BW.out.trans (hI.mono BW.out.size))
  clear hI
  obtain ⟨N16, hN16⟩ : ∃ W, W = w16.alloc (.cells #[.string ⟨#[61, 58, 61]⟩, .string ⟨#[61, 92, 61]⟩] 9) := ⟨_, rfl⟩
  have hI : Below w16.heap.size w16 N16 := by rw [hN16]; exact (Below.refl _ _).alloc (Nat.le_refl _) _
  have XT_ := XT.out.below hI
  have XO_ := XO.out.below hI
  have c0 := XT_.c0
  have d0 := XO_.c0
  have c1 := XT_.c1
  have d1 := XO_.c1
  have c2 := XT_.c2
  have d2 := XO_.c2
  have c3 := XT_.c3
  have d3 := XO_.c3
  have ZN := Lib.hid hN16
  rw [hN16] at c0 c1 c2 c3 d0 d1 d2 d3
  have NM := Lib.hid (show NamesAt w16.heap.size [11, 12] N16 from fun i hi => by
    rw [hN16]
    match i, hi with
    | 0, _ | 1, _ => simp [doSym])
  clear hN16 XT_ XO_
  go_wp2_with fail
  rw [← ZN.out]
  clear ZN
  clear c0 c1 c2 c3 d0 d1 d2 d3
  replace XT := Lib.hid (XT.out.below hI)
  replace XO := Lib.hid (XO.out.below hI)
  replace SB := Lib.hid (SB.out.below hI)
  replace ATa := Lib.hid (ATa.out.below hI)
  replace ATb := Lib.hid (ATb.out.below hI)
  replace BW := Lib.hid (BW.out.trans (hI.mono BW.out.size))
  clear hI
  refine (one_any [11, 12] (by decide) (by decide) S σ M (by omega) N16 SB.out w16.heap.size NM.out a b OKa.out OKb.out ATa.out ATb.out (by omega) (by omega)).mono ?_
  rintro e w17 ⟨rfl, hI⟩
  rw [show oneF (([11, 12] : List Nat).map (doV σ M a b)) 0 = true from (one_num σ M a b).2.2]
  clear NM
  replace XT := Lib.hid (XT.out.below hI)
  replace XO := Lib.hid (XO.out.below hI)
  replace SB := Lib.hid (SB.out.below hI)
  replace ATa := Lib.hid (ATa.out.below hI)
  replace ATb := Lib.hid (ATb.out.below hI)
  replace BW := Lib.hid (BW.out.trans (hI.mono BW.out.size))
  clear hI
  obtain ⟨v4, g4, h4⟩ : ∃ v g, doV σ M a b 4 = (v, g) := ⟨_, _, rfl⟩
  obtain ⟨v2, g2, h2⟩ : ∃ v g, doV σ M a b 2 = (v, g) := ⟨_, _, rfl⟩
  obtain ⟨v6, g6, h6⟩ : ∃ v g, doV σ M a b 6 = (v, g) := ⟨_, _, rfl⟩
  have H4 := Lib.hid h4
  have H2 := Lib.hid h2
  have H6 := Lib.hid h6
  clear h4 h2 h6
  have BAD : Hid (g4 = 0 → g2 = 0 → v4 = true → v2 = true) := Lib.hid (fun e1 e2 e3 => by
    have h4 := H4.out
    have h2 := H2.out
    rw [e1, e3] at h4
    have h2a : okU (unO σ M a b) = v2 := congrArg Prod.fst h2
    have h2b : gU (unO σ M a b) = g2 := congrArg Prod.snd h2
    rw [← h2a]
    exact same_unifies CN.out M (GN_good (show gdB a = true from Ga.out.symm)) (GN_good (show gdB b = true from Gb.out.symm)) AU.out AV.out h4 (by rw [h2b, e2]))
  have c0 := XT.out.c0
  have c1 := XT.out.c1
  have c2 := XT.out.c2
  have c3 := XT.out.c3
  have d0 := XO.out.c0
  have d1 := XO.out.c1
  have d2 := XO.out.c2
  have d3 := XO.out.c3
  go_wp2_with fail
  refine (is_any 4 (by omega) (by omega) (by omega) S σ M (by omega) w17 SB.out a b OKa.out OKb.out ATa.out ATb.out (by omega) (by omega)).mono ?_
  rintro e x1 ⟨rfl, hI⟩
  rw [show doV σ M a b 4 = (v4, g4) from H4.out]
  replace XT := Lib.hid (XT.out.below hI)
  replace XO := Lib.hid (XO.out.below hI)
  replace SB := Lib.hid (SB.out.below hI)
  replace ATa := Lib.hid (ATa.out.below hI)
  replace ATb := Lib.hid (ATb.out.below hI)
  replace BW := Lib.hid (BW.out.trans (hI.mono BW.out.size))
  clear hI
  clear c0 c1 c2 c3 d0 d1 d2 d3
  have c0 := XT.out.c0
  have c1 := XT.out.c1
  have c2 := XT.out.c2
  have c3 := XT.out.c3
  have d0 := XO.out.c0
  have d1 := XO.out.c1
  have d2 := XO.out.c2
  have d3 := XO.out.c3
  go_wp2_with fail
  refine (is_any 2 (by omega) (by omega) (by omega) S σ M (by omega) x1 SB.out a b OKa.out OKb.out ATa.out ATb.out (by omega) (by omega)).mono ?_
  rintro e x2 ⟨rfl, hI⟩
  rw [show doV σ M a b 2 = (v2, g2) from H2.out]
  replace XT := Lib.hid (XT.out.below hI)
  replace XO := Lib.hid (XO.out.below hI)
  replace SB := Lib.hid (SB.out.below hI)
  replace ATa := Lib.hid (ATa.out.below hI)
  replace ATb := Lib.hid (ATb.out.below hI)
  replace BW := Lib.hid (BW.out.trans (hI.mono BW.out.size))
  clear hI
  clear c0 c1 c2 c3 d0 d1 d2 d3
  have c0 := XT.out.c0
  have c1 := XT.out.c1
  have c2 := XT.out.c2
  have c3 := XT.out.c3
  have d0 := XO.out.c0
  have d1 := XO.out.c1
  have d2 := XO.out.c2
  have d3 := XO.out.c3
  go_wp2_with fail
  refine (is_any 4 (by omega) (by omega) (by omega) S σ M (by omega) x2 SB.out a b OKa.out OKb.out ATa.out ATb.out (by omega) (by omega)).mono ?_
  rintro e x3 ⟨rfl, hI⟩
  rw [show doV σ M a b 4 = (v4, g4) from H4.out]
  replace XT := Lib.hid (XT.out.below hI)
  replace XO := Lib.hid (XO.out.below hI)
  replace SB := Lib.hid (SB.out.below hI)
  replace ATa := Lib.hid (ATa.out.below hI)
  replace ATb := Lib.hid (ATb.out.below hI)
  replace BW := Lib.hid (BW.out.trans (hI.mono BW.out.size))
  clear hI
  clear c0 c1 c2 c3 d0 d1 d2 d3
  have n1 : (g4 != g4) = false := by simp
  have n2 : (v4 != v4) = false := by simp
  have n3 : (g6 == g6) = true := by simp
  have n4 : (v6 == v6) = true := by simp
  have hway : (((g4 == 0) && ((g2 == 0) && (v4 && !v2))) = false) := by
    rw [Bool.eq_false_iff]
    intro h
    simp only [Bool.and_eq_true, beq_iff_eq, Bool.not_eq_true'] at h
    have := BAD.out h.1 h.2.1 h.2.2.1
    rw [this] at h
    cases h.2.2.2
  have HW := Lib.hid hway
  clear hway
  obtain ⟨c1, hc1⟩ : ∃ c, c = (g4 == 0) := ⟨_, rfl⟩
  obtain ⟨c2, hc2⟩ : ∃ c, c = (g2 == 0) := ⟨_, rfl⟩
  have C1 := hc1.symm
  have C2 := hc2.symm
  rw [← hc1, ← hc2] at HW
  clear hc1 hc2
  cases c1 with
  | false =>
    have c0 := XT.out.c0
    have c1 := XT.out.c1
    have c2 := XT.out.c2
    have c3 := XT.out.c3
    have d0 := XO.out.c0
    have d1 := XO.out.c1
    have d2 := XO.out.c2
    have d3 := XO.out.c3
    go_wp2_with fail
    refine (is_any 6 (by omega) (by omega) (by omega) S σ M (by omega) x3 SB.out a b OKa.out OKb.out ATa.out ATb.out (by omega) (by omega)).mono ?_
    rintro e x4 ⟨rfl, hI⟩
    rw [show doV σ M a b 6 = (v6, g6) from H6.out]
    replace XT := Lib.hid (XT.out.below hI)
    replace XO := Lib.hid (XO.out.below hI)
    replace SB := Lib.hid (SB.out.below hI)
    replace ATa := Lib.hid (ATa.out.below hI)
    replace ATb := Lib.hid (ATb.out.below hI)
    replace BW := Lib.hid (BW.out.trans (hI.mono BW.out.size))
    clear hI
    clear c0 c1 c2 c3 d0 d1 d2 d3
    have c0 := XT.out.c0
    have c1 := XT.out.c1
    have c2 := XT.out.c2
    have c3 := XT.out.c3
    have d0 := XO.out.c0
    have d1 := XO.out.c1
    have d2 := XO.out.c2
    have d3 := XO.out.c3
    go_wp2_with fail
    refine (is_any 7 (by omega) (by omega) (by omega) S σ M (by omega) x4 SB.out b a OKb.out OKa.out ATb.out ATa.out (by omega) (by omega)).mono ?_
    rintro e x5 ⟨rfl, hI⟩
    rw [show doV σ M b a 7 = (v6, g6) from (turned σ M a b).trans H6.out]
    replace XT := Lib.hid (XT.out.below hI)
    replace XO := Lib.hid (XO.out.below hI)
    replace SB := Lib.hid (SB.out.below hI)
    replace ATa := Lib.hid (ATa.out.below hI)
    replace ATb := Lib.hid (ATb.out.below hI)
    replace BW := Lib.hid (BW.out.trans (hI.mono BW.out.size))
    clear hI
    clear c0 c1 c2 c3 d0 d1 d2 d3
    go_wp2_with fail
    refine (wakes14_any _).mono ?_
    rintro e we ⟨rfl, hB⟩
    replace BW := Lib.hid (BW.out.trans (hB.mono BW.out.size))
    clear hB
    go_wp2
    go_ret
    exact ⟨rfl, BW.out⟩
  | true =>
    cases c2 with
    | false =>
      have c0 := XT.out.c0
      have c1 := XT.out.c1
      have c2 := XT.out.c2
      have c3 := XT.out.c3
      have d0 := XO.out.c0
      have d1 := XO.out.c1
      have d2 := XO.out.c2
      have d3 := XO.out.c3
      go_wp2_with fail
      refine (is_any 6 (by omega) (by omega) (by omega) S σ M (by omega) x3 SB.out a b OKa.out OKb.out ATa.out ATb.out (by omega) (by omega)).mono ?_
      rintro e x4 ⟨rfl, hI⟩
      rw [show doV σ M a b 6 = (v6, g6) from H6.out]
      replace XT := Lib.hid (XT.out.below hI)
      replace XO := Lib.hid (XO.out.below hI)
      replace SB := Lib.hid (SB.out.below hI)
      replace ATa := Lib.hid (ATa.out.below hI)
      replace ATb := Lib.hid (ATb.out.below hI)
      replace BW := Lib.hid (BW.out.trans (hI.mono BW.out.size))
      clear hI
      clear c0 c1 c2 c3 d0 d1 d2 d3
      have c0 := XT.out.c0
      have c1 := XT.out.c1
      have c2 := XT.out.c2
      have c3 := XT.out.c3
      have d0 := XO.out.c0
      have d1 := XO.out.c1
      have d2 := XO.out.c2
      have d3 := XO.out.c3
      go_wp2_with fail
      refine (is_any 7 (by omega) (by omega) (by omega) S σ M (by omega) x4 SB.out b a OKb.out OKa.out ATb.out ATa.out (by omega) (by omega)).mono ?_
      rintro e x5 ⟨rfl, hI⟩
      rw [show doV σ M b a 7 = (v6, g6) from (turned σ M a b).trans H6.out]
      replace XT := Lib.hid (XT.out.below hI)
      replace XO := Lib.hid (XO.out.below hI)
      replace SB := Lib.hid (SB.out.below hI)
      replace ATa := Lib.hid (ATa.out.below hI)
      replace ATb := Lib.hid (ATb.out.below hI)
      replace BW := Lib.hid (BW.out.trans (hI.mono BW.out.size))
      clear hI
      clear c0 c1 c2 c3 d0 d1 d2 d3
      go_wp2_with fail
      refine (wakes14_any _).mono ?_
      rintro e we ⟨rfl, hB⟩
      replace BW := Lib.hid (BW.out.trans (hB.mono BW.out.size))
      clear hB
      go_wp2
      go_ret
      exact ⟨rfl, BW.out⟩
    | true =>
      cases v4 with
      | false =>
        have c0 := XT.out.c0
        have c1 := XT.out.c1
        have c2 := XT.out.c2
        have c3 := XT.out.c3
        have d0 := XO.out.c0
        have d1 := XO.out.c1
        have d2 := XO.out.c2
        have d3 := XO.out.c3
        go_wp2_with fail
        refine (is_any 6 (by omega) (by omega) (by omega) S σ M (by omega) x3 SB.out a b OKa.out OKb.out ATa.out ATb.out (by omega) (by omega)).mono ?_
        rintro e x4 ⟨rfl, hI⟩
        rw [show doV σ M a b 6 = (v6, g6) from H6.out]
        replace XT := Lib.hid (XT.out.below hI)
        replace XO := Lib.hid (XO.out.below hI)
        replace SB := Lib.hid (SB.out.below hI)
        replace ATa := Lib.hid (ATa.out.below hI)
        replace ATb := Lib.hid (ATb.out.below hI)
        replace BW := Lib.hid (BW.out.trans (hI.mono BW.out.size))
        clear hI
        clear c0 c1 c2 c3 d0 d1 d2 d3
        have c0 := XT.out.c0
        have c1 := XT.out.c1
        have c2 := XT.out.c2
        have c3 := XT.out.c3
        have d0 := XO.out.c0
        have d1 := XO.out.c1
        have d2 := XO.out.c2
        have d3 := XO.out.c3
        go_wp2_with fail
        refine (is_any 7 (by omega) (by omega) (by omega) S σ M (by omega) x4 SB.out b a OKb.out OKa.out ATb.out ATa.out (by omega) (by omega)).mono ?_
        rintro e x5 ⟨rfl, hI⟩
        rw [show doV σ M b a 7 = (v6, g6) from (turned σ M a b).trans H6.out]
        replace XT := Lib.hid (XT.out.below hI)
        replace XO := Lib.hid (XO.out.below hI)
        replace SB := Lib.hid (SB.out.below hI)
        replace ATa := Lib.hid (ATa.out.below hI)
        replace ATb := Lib.hid (ATb.out.below hI)
        replace BW := Lib.hid (BW.out.trans (hI.mono BW.out.size))
        clear hI
        clear c0 c1 c2 c3 d0 d1 d2 d3
        go_wp2_with fail
        refine (wakes14_any _).mono ?_
        rintro e we ⟨rfl, hB⟩
        replace BW := Lib.hid (BW.out.trans (hB.mono BW.out.size))
        clear hB
        go_wp2
        go_ret
        exact ⟨rfl, BW.out⟩
      | true =>
        cases v2 with
        | false => exact absurd HW.out (by decide)
        | true =>
          have c0 := XT.out.c0
          have c1 := XT.out.c1
          have c2 := XT.out.c2
          have c3 := XT.out.c3
          have d0 := XO.out.c0
          have d1 := XO.out.c1
          have d2 := XO.out.c2
          have d3 := XO.out.c3
          go_wp2_with fail
          refine (is_any 6 (by omega) (by omega) (by omega) S σ M (by omega) x3 SB.out a b OKa.out OKb.out ATa.out ATb.out (by omega) (by omega)).mono ?_
          rintro e x4 ⟨rfl, hI⟩
          rw [show doV σ M a b 6 = (v6, g6) from H6.out]
          replace XT := Lib.hid (XT.out.below hI)
          replace XO := Lib.hid (XO.out.below hI)
          replace SB := Lib.hid (SB.out.below hI)
          replace ATa := Lib.hid (ATa.out.below hI)
          replace ATb := Lib.hid (ATb.out.below hI)
          replace BW := Lib.hid (BW.out.trans (hI.mono BW.out.size))
          clear hI
          clear c0 c1 c2 c3 d0 d1 d2 d3
          have c0 := XT.out.c0
          have c1 := XT.out.c1
          have c2 := XT.out.c2
          have c3 := XT.out.c3
          have d0 := XO.out.c0
          have d1 := XO.out.c1
          have d2 := XO.out.c2
          have d3 := XO.out.c3
          go_wp2_with fail
          refine (is_any 7 (by omega) (by omega) (by omega) S σ M (by omega) x4 SB.out b a OKb.out OKa.out ATb.out ATa.out (by omega) (by omega)).mono ?_
          rintro e x5 ⟨rfl, hI⟩
          rw [show doV σ M b a 7 = (v6, g6) from (turned σ M a b).trans H6.out]
          replace XT := Lib.hid (XT.out.below hI)
          replace XO := Lib.hid (XO.out.below hI)
          replace SB := Lib.hid (SB.out.below hI)
          replace ATa := Lib.hid (ATa.out.below hI)
          replace ATb := Lib.hid (ATb.out.below hI)
          replace BW := Lib.hid (BW.out.trans (hI.mono BW.out.size))
          clear hI
          clear c0 c1 c2 c3 d0 d1 d2 d3
          go_wp2_with fail
          refine (wakes14_any _).mono ?_
          rintro e we ⟨rfl, hB⟩
          replace BW := Lib.hid (BW.out.trans (hB.mono BW.out.size))
          clear hB
          go_wp2
          go_ret
          exact ⟨rfl, BW.out⟩

theorem builtinSides_w (w : World) (lp : Option Addr) (l : List (Int × Nd)) (lc : Nat) (k : Int) (s : ByteArray) (n : Int) (p : Option Addr) (c : Nat) (ts : Ts) (k' : Int) (s' : ByteArray) (n' : Int) (p' : Option Addr) (c' : Nat) (ts' : Ts)
    (hat : BsAt w lp l) (hbok : (bsTs l).ok) (hl : l.length ≤ 9223372036854775807) (hvr : ∀ e ∈ l, -9223372036854775808 ≤ e.1 ∧ e.1 ≤ 9223372036854775807) (hok : Ts.ok (.cons k s n p c ts .nil)) (hta : Ts.At w p ts) (hok' : Ts.ok (.cons k' s' n' p' c' ts' .nil)) (hta' : Ts.At w p' ts') :
    Calls Tryz.prog 4 #[.slice lp l.length lc, tv k s n p ts.len c, tv k' s' n' p' ts'.len c'] w fun e w' => e = .returned (.bool true) ∧ Below w.heap.size w w' :=
  builtinSides_true l hl hbok hvr ⟨k, s, n, p, c, ts⟩ ⟨k', s', n', p', c', ts'⟩ w lp lc hat hok hta hok' hta'

end Go.Proofs.YtnmhnaanpjlniaaGreat
