/-
  The law TermMakes, walked.
-/
import Derived.Test.YtlhclblekpngnaaUe
namespace Go.Proofs.Ytlhclblekpngnaa
open Go.RowKit

set_option maxRecDepth 100000 in
set_option maxHeartbeats 4000000 in
theorem termMakes_true (w : World) (name : ByteArray) (n : Int) (pa : Option Addr) (ca : Nat) (ta : Ts)
    (hname : name.size ≤ 140737488351232) (hn : -9223372036854775808 ≤ n ∧ n ≤ 9223372036854775807) (hoka : ta.ok) (hata : Ts.At w pa ta) (hla : (ta.len ≤ ca ∧ ca ≤ 9223372036854775807) ∧ (pa = none → ca = 0)) :
    Calls Try.prog 4 #[.string name, .int .i64 n, .slice pa ta.len ca] w fun e w' => e = .returned (.bool true) ∧ Below w.heap.size w w' := by
  have OKA := Lib.hid hoka
  have ATA := Lib.hid hata
  clear hoka hata
  obtain ⟨⟨hca, hca'⟩, hpa⟩ := hla
  obtain ⟨i0, hi, hz0, hz1, hz2⟩ := info_parts infoTerm
  go_enter Try.func4, Try.ntmps4
  by_cases hga : decide (1000 < manyP ta 0) = true
  · go_wp2_with fail
    refine (great_is ta OKA.out true hga w pa ca ATA.out (by omega)).mono ?_
    rintro e w1 ⟨rfl, hB1⟩
    clear hga
    go_wp2_with fail
    refine (wakes_any _).mono ?_
    rintro e w2 ⟨rfl, hB2⟩
    go_wp2
    go_ret
    exact ⟨rfl, hB1.trans (hB2.mono hB1.size)⟩
  rw [Bool.not_eq_true] at hga
  have hsa := small_of_many hga
  have hla := Ts.len_size ta
  by_cases ha0 : ((ta.len : Int) == 0) = true
  · obtain rfl : ta = .nil := Ts.len_zero (by simp at ha0; omega)
    have nilat : ∀ W : World, Ts.At W none .nil := fun _ => ⟨0, 0, .inl rfl, trivial⟩
    have h00 : Ts.nil.len = 0 := rfl
    clear ha0
    cases pa with
    | none =>
      obtain rfl : ca = 0 := hpa rfl
      go_wp2_with fail
      refine (great_is .nil trivial false hga w none 0 (nilat _) (by simp [Ts.len])).mono ?_
      rintro e w2 ⟨rfl, hB1⟩
      clear hga
      have BB2 := Lib.hid hB1
      clear hB1
      go_wp2_with fail
      refine (F_any name .nil (by simp [Ts.size]) trivial w2 none 0 (nilat _)).mono ?_
      rintro e w6 ⟨us, qa, da, rfl, hat6, htw6, hok6, hcl6, hpn6, hB6⟩
      rw [show (if Ts.nil.len = 0 then (3 : Int) else 4) = 3 from rfl]
      unfold tv
      have hus : us = .nil := Ts.len_zero (Ts.twin_len _ _ htw6)
      subst hus
      have BW := BB2.out.trans (hB6.mono BB2.out.size)
      have hat6' := hat6.at
      have ATW := Lib.hid hat6'
      clear hat6 htw6 hok6 hB6 hat6'
      go_wp2_with fail
      refine wp_loop_rounds 1 ?_
      rw [rounds_succ]
      have HSAME : Hid ((headAlike 3 3 name name 0 0 && alike .nil .nil) = true) := Lib.hid (by simp [headAlike, alike])
      obtain ⟨W7, hW7, hs7, hA7, hT7, hU7⟩ := box2 w6 #[Value.int IntKind.u8 3, Value.string name, Value.int IntKind.i64 0, Value.slice qa 0 da] #[Value.int IntKind.u8 3, Value.string name, Value.int IntKind.i64 0, Value.slice none 0 0] 24 24
      have k0 := hT7 0 _ rfl
      have k1 := hT7 1 _ rfl
      have k2 := hT7 2 _ rfl
      have k3 := hT7 3 _ rfl
      have m0 := hU7 0 _ rfl
      have m1 := hU7 1 _ rfl
      have m2 := hU7 2 _ rfl
      have m3 := hU7 3 _ rfl
      have ATW' := ATW.out.below hA7
      replace BW := BW.trans (hA7.mono BW.size)
      rw [← hW7]
      clear hW7 hT7 hU7 hA7 ATW
      go_wp2_with fail
      refine (same_of .nil .nil (fun w p p' c c' h h' => all_any _ .nil .nil (Nat.lt_succ_self _) trivial trivial (by omega) (by omega) w p p' c c' h h') 3 3 name name 0 0 _ _ _ _ _ ATW' (nilat _)).mono ?_
      rintro e x1 ⟨rfl, hX⟩
      rw [HSAME.out]
      replace BW := BW.trans (hX.mono BW.size)
      clear hX
      go_wp2_with fail
      refine (V_any n x1).mono ?_
      rintro e x2 ⟨rfl, hX⟩
      unfold tv
      replace BW := BW.trans (hX.mono BW.size)
      clear hX
      go_wp2_with fail
      refine (same_of .nil .nil (fun w p p' c c' h h' => all_any _ .nil .nil (Nat.lt_succ_self _) trivial trivial (by simp [Ts.len]) (by simp [Ts.len]) w p p' c c' h h') 1 1 ⟨#[]⟩ ⟨#[]⟩ n n none none 0 0 x2 (nilat _) (nilat _)).mono ?_
      rintro e x3 ⟨rfl, hX⟩
      rw [show (headAlike 1 1 ⟨#[]⟩ ⟨#[]⟩ n n && alike .nil .nil) = true from by simp [headAlike, alike]]
      replace BW := BW.trans (hX.mono BW.size)
      clear hX
      go_wp2_with fail
      refine (I_any n x3).mono ?_
      rintro e x4 ⟨rfl, hX⟩
      unfold tv
      replace BW := BW.trans (hX.mono BW.size)
      clear hX
      go_wp2_with fail
      refine (same_of .nil .nil (fun w p p' c c' h h' => all_any _ .nil .nil (Nat.lt_succ_self _) trivial trivial (by simp [Ts.len]) (by simp [Ts.len]) w p p' c c' h h') 2 2 ⟨#[]⟩ ⟨#[]⟩ n n none none 0 0 x4 (nilat _) (nilat _)).mono ?_
      rintro e x5 ⟨rfl, hX⟩
      rw [show (headAlike 2 2 ⟨#[]⟩ ⟨#[]⟩ n n && alike .nil .nil) = true from by simp [headAlike, alike]]
      replace BW := BW.trans (hX.mono BW.size)
      clear hX
      go_wp2_with fail
      refine (A_any name x5).mono ?_
      rintro e x6 ⟨rfl, hX⟩
      unfold tv
      replace BW := BW.trans (hX.mono BW.size)
      clear hX
      go_wp2_with fail
      refine (same_of .nil .nil (fun w p p' c c' h h' => all_any _ .nil .nil (Nat.lt_succ_self _) trivial trivial (by simp [Ts.len]) (by simp [Ts.len]) w p p' c c' h h') 3 3 name name 0 0 none none 0 0 x6 (nilat _) (nilat _)).mono ?_
      rintro e x7 ⟨rfl, hX⟩
      rw [show (headAlike 3 3 name name 0 0 && alike .nil .nil) = true from by simp [headAlike, alike]]
      replace BW := BW.trans (hX.mono BW.size)
      clear hX
      go_wp2_with fail
      refine (wakes_any x7).mono ?_
      rintro e x8 ⟨rfl, hX⟩
      replace BW := BW.trans (hX.mono BW.size)
      clear hX
      go_wp2
      go_ret
      exact ⟨rfl, BW⟩
    | some ad =>
      go_wp2_with fail
      refine (great_is .nil trivial false hga w (some ad) ca ATA.out (by simp [Ts.len])).mono ?_
      rintro e w1 ⟨rfl, hB1⟩
      clear hga
      go_wp2_with (at_builtin; refine wpList_append_own_at _ rfl _ _ 22 rfl w.heap.size 24 i0 zeroTerm 4 56 Try.underlying22 hi hz0 hz1 hz2 rfl (by decide) _ _ _ rfl (World.ownsRow_nil _ _ _ _) ad 0 ca [] rfl rfl (by simp) (by simp) (by unfold maxLen; omega) (by omega) hB1.size ?_; intro v5 w2 hown2 hgrow2 hnil hob; have hv5 := hnil.2 ⟨rfl, rfl⟩; subst hv5; have BB2 := Lib.hid (hB1.grown (w' := w2) (row := none) hgrow2 hB1.size (fun k hk => by cases hk)); clear hown2 hgrow2 hnil hob)
      go_wp2_with fail
      refine (F_any name .nil (by simp [Ts.size]) trivial w2 none 0 (nilat _)).mono ?_
      rintro e w6 ⟨us, qa, da, rfl, hat6, htw6, hok6, hcl6, hpn6, hB6⟩
      rw [show (if Ts.nil.len = 0 then (3 : Int) else 4) = 3 from rfl]
      unfold tv
      have hus : us = .nil := Ts.len_zero (Ts.twin_len _ _ htw6)
      subst hus
      have BW := BB2.out.trans (hB6.mono BB2.out.size)
      have hat6' := hat6.at
      have ATW := Lib.hid hat6'
      clear hat6 htw6 hok6 hB6 hat6'
      go_wp2_with fail
      refine wp_loop_rounds 1 ?_
      rw [rounds_succ]
      have HSAME : Hid ((headAlike 3 3 name name 0 0 && alike .nil .nil) = true) := Lib.hid (by simp [headAlike, alike])
      obtain ⟨W7, hW7, hs7, hA7, hT7, hU7⟩ := box2 w6 #[Value.int IntKind.u8 3, Value.string name, Value.int IntKind.i64 0, Value.slice qa 0 da] #[Value.int IntKind.u8 3, Value.string name, Value.int IntKind.i64 0, Value.slice none 0 0] 24 24
      have k0 := hT7 0 _ rfl
      have k1 := hT7 1 _ rfl
      have k2 := hT7 2 _ rfl
      have k3 := hT7 3 _ rfl
      have m0 := hU7 0 _ rfl
      have m1 := hU7 1 _ rfl
      have m2 := hU7 2 _ rfl
      have m3 := hU7 3 _ rfl
      have ATW' := ATW.out.below hA7
      replace BW := BW.trans (hA7.mono BW.size)
      rw [← hW7]
      clear hW7 hT7 hU7 hA7 ATW
      go_wp2_with fail
      refine (same_of .nil .nil (fun w p p' c c' h h' => all_any _ .nil .nil (Nat.lt_succ_self _) trivial trivial (by omega) (by omega) w p p' c c' h h') 3 3 name name 0 0 _ _ _ _ _ ATW' (nilat _)).mono ?_
      rintro e x1 ⟨rfl, hX⟩
      rw [HSAME.out]
      replace BW := BW.trans (hX.mono BW.size)
      clear hX
      go_wp2_with fail
      refine (V_any n x1).mono ?_
      rintro e x2 ⟨rfl, hX⟩
      unfold tv
      replace BW := BW.trans (hX.mono BW.size)
      clear hX
      go_wp2_with fail
      refine (same_of .nil .nil (fun w p p' c c' h h' => all_any _ .nil .nil (Nat.lt_succ_self _) trivial trivial (by simp [Ts.len]) (by simp [Ts.len]) w p p' c c' h h') 1 1 ⟨#[]⟩ ⟨#[]⟩ n n none none 0 0 x2 (nilat _) (nilat _)).mono ?_
      rintro e x3 ⟨rfl, hX⟩
      rw [show (headAlike 1 1 ⟨#[]⟩ ⟨#[]⟩ n n && alike .nil .nil) = true from by simp [headAlike, alike]]
      replace BW := BW.trans (hX.mono BW.size)
      clear hX
      go_wp2_with fail
      refine (I_any n x3).mono ?_
      rintro e x4 ⟨rfl, hX⟩
      unfold tv
      replace BW := BW.trans (hX.mono BW.size)
      clear hX
      go_wp2_with fail
      refine (same_of .nil .nil (fun w p p' c c' h h' => all_any _ .nil .nil (Nat.lt_succ_self _) trivial trivial (by simp [Ts.len]) (by simp [Ts.len]) w p p' c c' h h') 2 2 ⟨#[]⟩ ⟨#[]⟩ n n none none 0 0 x4 (nilat _) (nilat _)).mono ?_
      rintro e x5 ⟨rfl, hX⟩
      rw [show (headAlike 2 2 ⟨#[]⟩ ⟨#[]⟩ n n && alike .nil .nil) = true from by simp [headAlike, alike]]
      replace BW := BW.trans (hX.mono BW.size)
      clear hX
      go_wp2_with fail
      refine (A_any name x5).mono ?_
      rintro e x6 ⟨rfl, hX⟩
      unfold tv
      replace BW := BW.trans (hX.mono BW.size)
      clear hX
      go_wp2_with fail
      refine (same_of .nil .nil (fun w p p' c c' h h' => all_any _ .nil .nil (Nat.lt_succ_self _) trivial trivial (by simp [Ts.len]) (by simp [Ts.len]) w p p' c c' h h') 3 3 name name 0 0 none none 0 0 x6 (nilat _) (nilat _)).mono ?_
      rintro e x7 ⟨rfl, hX⟩
      rw [show (headAlike 3 3 name name 0 0 && alike .nil .nil) = true from by simp [headAlike, alike]]
      replace BW := BW.trans (hX.mono BW.size)
      clear hX
      go_wp2_with fail
      refine (wakes_any x7).mono ?_
      rintro e x8 ⟨rfl, hX⟩
      replace BW := BW.trans (hX.mono BW.size)
      clear hX
      go_wp2
      go_ret
      exact ⟨rfl, BW⟩
  · rw [Bool.not_eq_true] at ha0
    obtain ⟨b, o, hp, hlies⟩ := id ATA.out
    have hl0 : 0 < ta.len := by have := beq_eq_false_iff_ne.1 ha0; omega
    have hp' := Ts.some_of hp hl0
    have LI := Lib.hid hlies
    clear hp hlies hpa
    subst hp'
    go_wp2_with fail
    refine (great_is ta OKA.out false hga w _ ca ATA.out (by omega)).mono ?_
    rintro e w1 ⟨rfl, hB1⟩
    clear hga
    have hs1 := hB1.size
    have hnews : ∀ j u, (cellsL ta)[j]? = some u → w1.cell? ((⟨b, o, none⟩ : Addr).add j) = some u := by
      intro j u hj
      rw [Go.WideShapes.add_plain]
      exact cellsL_of ta (Ts.lies_stay (stays hB1).1 ta LI.out) j u hj
    have HN := Lib.hid hnews
    clear hnews
    go_wp2_with (at_builtin; refine wpList_append_own_at _ rfl _ _ 22 rfl w.heap.size 24 i0 zeroTerm 4 56 Try.underlying22 hi hz0 hz1 hz2 rfl (by decide) _ _ _ rfl (World.ownsRow_nil _ _ _ _) ⟨b, o, none⟩ ta.len ca (cellsL ta) rfl (cellsL_length ta) HN.out (cellsL_one ta) (by unfold maxLen; omega) (by omega) (by omega) ?_; intro v5 W5 hown2 hgrow2 hnil hob; have X := Lib.hid (And.intro hown2 (And.intro hgrow2 hob)); clear hown2 hgrow2 hnil hob)
    have hown := X.out.1
    rw [Nat.zero_add, List.nil_append] at hown
    have hgr : w1.grownBy W5 none := X.out.2.1
    have BW5 : Below w.heap.size w W5 := hB1.grown hgr hs1 (fun k hk => by cases hk)
    rcases hown.2 with ⟨_, h0⟩ | ⟨g, cap, cur, rfl, hg1, hg2, hg3, hg4, hg5, hg6⟩
    · omega
    obtain ⟨hrow, hfro⟩ := row_cells hg2 hg6 (cellsL_length ta)
    have hsome : ∀ y, y < ta.len * 4 → (W5.cell? ⟨g, y, none⟩).isSome := fun y hy => by
      have hy' : y < (cellsL ta).length := by rw [cellsL_length]; exact hy
      have := hrow y _ (List.getElem?_eq_getElem hy')
      rw [Nat.zero_add] at this
      rw [this]
      rfl
    have hlt5 : g < W5.heap.size := by
      have := hown.lt g rfl
      exact this.2
    have IT : Hid (Ts.At W5 (some ⟨g, 0, none⟩) ta) := Lib.hid ⟨g, 0, .inr rfl, lies_copy (stays BW5).1 ta LI.out hrow⟩
    have SM := Lib.hid hsome
    have FZ := Lib.hid hfro
    have BB5 := Lib.hid BW5
    clear hown hgr hg2 hg5 hg6 hrow hfro hsome X HN hs1 hB1 BW5
    refine (F_any name ta (by omega) OKA.out W5 _ cap IT.out).mono ?_
    rintro e w6 ⟨us, qa, da, rfl, hat6, htw6, hok6, hcl6, hpn6, hB6⟩
    rw [if_neg (by omega)]
    unfold tv
    have AT6 := Lib.hid hat6
    have TW6 := Lib.hid htw6
    have OK6 := Lib.hid hok6
    have hs6 := hB6.size
    have BB6 := Lib.hid (BB5.out.trans (hB6.mono BB5.out.size))
    have KE6 := Lib.hid (stays hB6)
    clear hat6 htw6 hok6 hB6
    go_wp2_with fail
    obtain ⟨W7, hW7, hs7, hA7, hT7, hU7⟩ := box2 w6 #[Value.int IntKind.u8 4, Value.string name, Value.int IntKind.i64 0, Value.slice qa us.len da] #[Value.int IntKind.u8 4, Value.string name, Value.int IntKind.i64 0, Value.slice (some ⟨b, o, none⟩) ta.len ca] 24 24
    rw [← hW7]
    have Z7 := Lib.hid hW7
    clear hW7
    have BB7 := Lib.hid (BB6.out.trans (hA7.mono BB6.out.size))
    have AT7 : Hid (Ts.AtB W5.heap.size W7 qa us) := Lib.hid (AT6.out.stay (Nat.le_refl _) fun b y _ hlt => (stays hA7).1 b y hlt)
    have hm7 : ∀ y, y < ta.len * 4 → (W7.cell? ⟨g, y, none⟩).isSome := fun y hy => by
      rw [(stays hA7).1 g y (by omega), KE6.out.1 g y hlt5]
      exact SM.out y hy
    have hf7 : ∀ y, W7.frozen? ⟨g, y, none⟩ = false := fun y => by
      rw [(stays hA7).2 g y (by omega), KE6.out.2 g y hlt5]
      exact FZ.out y
    have M7 := Lib.hid hm7
    have F7 := Lib.hid hf7
    have T7 := Lib.hid hT7
    have U7 := Lib.hid hU7
    clear hm7 hf7 hA7 hT7 hU7 Z7 SM FZ AT6 KE6
    go_loopw [10] (fun s10 wr => ∃ (j : Nat), j ≤ ta.len ∧ s10 = .int .i64 j ∧ wr.heap.size = W7.heap.size ∧ Hid (∀ b y, b ≠ g → wr.cell? ⟨b, y, none⟩ = W7.cell? ⟨b, y, none⟩) ∧ Hid (∀ y, y < ta.len * 4 → (wr.cell? ⟨g, y, none⟩).isSome) ∧ Hid (∀ b y, wr.frozen? ⟨b, y, none⟩ = W7.frozen? ⟨b, y, none⟩) ∧ Hid (Below w.heap.size w wr)) (fun i _ => ta.len - (intOf i).toNat)
    case atStart => exact ⟨0, Nat.zero_le _, rfl, rfl, Lib.hid fun _ _ _ => rfl, M7, Lib.hid fun _ _ => rfl, BB7⟩
    case round =>
      obtain ⟨j, hj, rfl, hsr, R1, R2, R3, R4⟩ := hrel
      by_cases hlt : j < ta.len
      · obtain ⟨u0, e0⟩ := Option.isSome_iff_exists.1 (R2.out (j * 4) (by omega))
        obtain ⟨u1, e1⟩ := Option.isSome_iff_exists.1 (R2.out (j * 4 + 1) (by omega))
        obtain ⟨u2, e2⟩ := Option.isSome_iff_exists.1 (R2.out (j * 4 + 2) (by omega))
        obtain ⟨u3, e3⟩ := Option.isSome_iff_exists.1 (R2.out (j * 4 + 3) (by omega))
        have f0 : wr.frozen? ⟨g, j * 4, none⟩ = false := (R3.out _ _).trans (F7.out _)
        have f1 : wr.frozen? ⟨g, j * 4 + 1, none⟩ = false := (R3.out _ _).trans (F7.out _)
        have f2 : wr.frozen? ⟨g, j * 4 + 2, none⟩ = false := (R3.out _ _).trans (F7.out _)
        have f3 : wr.frozen? ⟨g, j * 4 + 3, none⟩ = false := (R3.out _ _).trans (F7.out _)
        go_wp2
        go_roundw
        case rel =>
          obtain ⟨Wz, hWz, z1, z2, z3, z4, z5⟩ := zero_step wr g (j * 4) (Value.int IntKind.u8 0) (Value.string { data := #[] }) (Value.int IntKind.i64 0) (Value.slice none 0 0)
          rw [← hWz]
          refine ⟨j + 1, by omega, by go_num, by omega, Lib.hid fun b y hb => (z2 b y hb).trans (R1.out b y hb), Lib.hid fun y hy => z3 y (R2.out y hy), Lib.hid fun b y => (z4 b y).trans (R3.out b y), Lib.hid (z5 _ _ hg1 R4.out)⟩
        case measure => simp [intOf]; omega
      · have nilat : ∀ W : World, Ts.At W none .nil := fun _ => ⟨0, 0, .inl rfl, trivial⟩
        have hbox : ∀ (T y : Nat) (u : Value), w6.heap.size ≤ T → W7.cell? ⟨T, y, none⟩ = some u → wr.cell? ⟨T, y, none⟩ = some u := fun T y u hT hu => (R1.out T y (by omega)).trans hu
        have k0 := hbox _ _ _ (Nat.le_refl _) (T7.out 0 _ rfl)
        have k1 := hbox _ _ _ (Nat.le_refl _) (T7.out 1 _ rfl)
        have k2 := hbox _ _ _ (Nat.le_refl _) (T7.out 2 _ rfl)
        have k3 := hbox _ _ _ (Nat.le_refl _) (T7.out 3 _ rfl)
        have m0 := hbox _ _ _ (Nat.le_succ _) (U7.out 0 _ rfl)
        have m1 := hbox _ _ _ (Nat.le_succ _) (U7.out 1 _ rfl)
        have m2 := hbox _ _ _ (Nat.le_succ _) (U7.out 2 _ rfl)
        have m3 := hbox _ _ _ (Nat.le_succ _) (U7.out 3 _ rfl)
        have ATW : Hid (Ts.At wr qa us) := Lib.hid (AT7.out.stay (Nat.le_refl _) fun b y hb hlt => R1.out b y (by omega)).at
        have ATT : Hid (Ts.At wr (some ⟨b, o, none⟩) ta) := Lib.hid (ATA.out.below R4.out)
        have BW := R4.out
        have hlu : us.len = ta.len := Ts.twin_len _ _ TW6.out
        have hlu' : us.len ≤ 1000 := by omega
        have HSAME : Hid ((headAlike 4 4 name name 0 0 && alike us ta) = true) := Lib.hid (by rw [Ts.twin_alike us ta ta TW6.out, alike_refl]; simp [headAlike])
        clear hbox hlu R1 R2 R3 T7 U7
        go_wp2_with fail
        refine (same_of us ta (fun w p p' c c' h h' => all_any _ us ta (Nat.lt_succ_self _) OK6.out OKA.out (by omega) (by omega) w p p' c c' h h') 4 4 name name 0 0 _ _ _ _ _ ATW.out ATT.out).mono ?_
        rintro e x1 ⟨rfl, hX⟩
        rw [HSAME.out]
        replace BW := BW.trans (hX.mono BW.size)
        clear hX
        go_wp2_with fail
        refine (V_any n x1).mono ?_
        rintro e x2 ⟨rfl, hX⟩
        unfold tv
        replace BW := BW.trans (hX.mono BW.size)
        clear hX
        go_wp2_with fail
        refine (same_of .nil .nil (fun w p p' c c' h h' => all_any _ .nil .nil (Nat.lt_succ_self _) trivial trivial (by simp [Ts.len]) (by simp [Ts.len]) w p p' c c' h h') 1 1 ⟨#[]⟩ ⟨#[]⟩ n n none none 0 0 x2 (nilat _) (nilat _)).mono ?_
        rintro e x3 ⟨rfl, hX⟩
        rw [show (headAlike 1 1 ⟨#[]⟩ ⟨#[]⟩ n n && alike .nil .nil) = true from by simp [headAlike, alike]]
        replace BW := BW.trans (hX.mono BW.size)
        clear hX
        go_wp2_with fail
        refine (I_any n x3).mono ?_
        rintro e x4 ⟨rfl, hX⟩
        unfold tv
        replace BW := BW.trans (hX.mono BW.size)
        clear hX
        go_wp2_with fail
        refine (same_of .nil .nil (fun w p p' c c' h h' => all_any _ .nil .nil (Nat.lt_succ_self _) trivial trivial (by simp [Ts.len]) (by simp [Ts.len]) w p p' c c' h h') 2 2 ⟨#[]⟩ ⟨#[]⟩ n n none none 0 0 x4 (nilat _) (nilat _)).mono ?_
        rintro e x5 ⟨rfl, hX⟩
        rw [show (headAlike 2 2 ⟨#[]⟩ ⟨#[]⟩ n n && alike .nil .nil) = true from by simp [headAlike, alike]]
        replace BW := BW.trans (hX.mono BW.size)
        clear hX
        go_wp2_with fail
        refine (A_any name x5).mono ?_
        rintro e x6 ⟨rfl, hX⟩
        unfold tv
        replace BW := BW.trans (hX.mono BW.size)
        clear hX
        go_wp2_with fail
        refine (same_of .nil .nil (fun w p p' c c' h h' => all_any _ .nil .nil (Nat.lt_succ_self _) trivial trivial (by simp [Ts.len]) (by simp [Ts.len]) w p p' c c' h h') 3 3 name name 0 0 none none 0 0 x6 (nilat _) (nilat _)).mono ?_
        rintro e x7 ⟨rfl, hX⟩
        rw [show (headAlike 3 3 name name 0 0 && alike .nil .nil) = true from by simp [headAlike, alike]]
        replace BW := BW.trans (hX.mono BW.size)
        clear hX
        go_wp2_with fail
        refine (wakes_any x7).mono ?_
        rintro e x8 ⟨rfl, hX⟩
        replace BW := BW.trans (hX.mono BW.size)
        clear hX
        go_wp2
        go_ret
        exact ⟨rfl, BW⟩
end Go.Proofs.Ytlhclblekpngnaa
