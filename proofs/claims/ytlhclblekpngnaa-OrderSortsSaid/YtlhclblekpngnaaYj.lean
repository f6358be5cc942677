/-
  The law OrderSorts, walked. (Written by gen_yj.py.)
-/
import Derived.Test.YtlhclblekpngnaaYi
import Derived.Test.YtlhclblekpngnaaXi
import Derived.Test.YtlhclblekpngnaaXl
import Derived.Test.YtlhclblekpngnaaUa
import Derived.Test.YtlhclblekpngnaaUe
namespace Go.Proofs.Ytlhclblekpngnaa
open Go.RowKit

def goodI (x : It) : Prop := (shapeL x.us && headB x.k x.s x.n x.us.len) = true

theorem item_twin : ∀ {us ts : Ts}, Ts.twin us ts → ∀ i, i < us.len → (itemAt us i).k = (itemAt ts i).k ∧ (itemAt us i).s = (itemAt ts i).s ∧ (itemAt us i).n = (itemAt ts i).n ∧ Ts.twin (itemAt us i).us (itemAt ts i).us
  | .nil, .nil, _, i, h => by simp [Ts.len] at h
  | .cons .., .cons .., ⟨h1, h2, h3, h4, _⟩, 0, _ => ⟨h1, h2, h3, h4⟩
  | .cons .., .cons .., ⟨_, _, _, _, h5⟩, i + 1, h => item_twin h5 i (by simp only [Ts.len] at h; omega)
  | .nil, .cons .., h, _, _ => h.elim
  | .cons .., .nil, h, _, _ => h.elim

theorem goodI_twin {us ts : Ts} (h : Ts.twin us ts) {i : Nat} (hi : i < us.len) (hg : goodI (itemAt ts i)) : goodI (itemAt us i) := by
  obtain ⟨h1, h2, h3, h4⟩ := item_twin h i hi
  unfold goodI at *
  rw [h1, h2, h3, Ts.twin_shape _ _ h4, Ts.twin_len _ _ h4]
  exact hg

theorem tsF_size {B : Nat} : ∀ (n : Nat) (d : Nat → It), (∀ i, i < n → (d i).us.size ≤ B) → (tsF d n).size ≤ n * (B + 1)
  | 0, _, _ => by simp [tsF, Ts.size]
  | n + 1, d, h => by
    have h1 := h 0 (by omega)
    have h2 := tsF_size n (fun i => d (i + 1)) (fun i hi => h (i + 1) (by omega))
    rw [tsF, Ts.size, Nat.add_mul]
    omega

set_option maxRecDepth 100000 in
set_option maxHeartbeats 40000000 in
theorem orderSorts_true (w : World) (p : Option Addr) (c : Nat) (ts : Ts) (hok : ts.ok) (hat : Ts.At w p ts) (hl : (ts.len ≤ c ∧ c ≤ 9223372036854775807) ∧ (p = none → c = 0)) :
    Calls Try.prog 8 #[.slice p ts.len c] w fun e w' => e = .returned (.bool true) ∧ Below w.heap.size w w' := by
  have OK := Lib.hid hok
  have AT := Lib.hid hat
  have HL := Lib.hid hl
  have hlc := hl.1
  obtain ⟨i0, hi, hz0, hz1, hz2⟩ := info_parts infoTerm
  have BB : Hid (Below w.heap.size w w) := Lib.hid (Below.refl _ _)
  clear hok hat hl
  go_enter Try.func8, Try.ntmps8
  by_cases h30 : (30 : Int) < (ts.len : Int)
  · go_wp2_with fail
    refine (wakes2_any _).mono ?_
    rintro e w9 ⟨rfl, hB⟩
    replace BB := Lib.hid (BB.out.trans (hB.mono BB.out.size))
    go_wp2
    go_ret
    exact ⟨rfl, BB.out⟩
  go_wp2_with fail
  by_cases hg : decide (1000 < manyP ts 0) = true
  · refine (great_is ts OK.out true hg w p c AT.out (by omega)).mono ?_
    rintro e w2 ⟨rfl, hB⟩
    replace BB := Lib.hid hB
    clear hg hB
    go_wp2_with fail
    refine (wakes2_any _).mono ?_
    rintro e w9 ⟨rfl, hB⟩
    replace BB := Lib.hid (BB.out.trans (hB.mono BB.out.size))
    go_wp2
    go_ret
    exact ⟨rfl, BB.out⟩
  rw [Bool.not_eq_true] at hg
  have hsz := small_of_many hg
  refine (great_is ts OK.out false hg w p c AT.out (by omega)).mono ?_
  rintro e w2 ⟨rfl, hB⟩
  replace BB := Lib.hid hB
  have AT2 := Lib.hid (AT.out.below hB)
  clear hg hB
  obtain ⟨b, o, hp, hlies⟩ := AT2.out
  have HP := Lib.hid hp
  have LI : Hid (ts.lies w2 b o) := Lib.hid hlies
  clear hp hlies
  go_wp2_with fail
  go_loopw [3] (fun s3 wr => ∃ (j : Nat), j ≤ ts.len ∧ s3 = .int .i64 j ∧ Hid (∀ m, m < j → goodI (itemAt ts m)) ∧ Hid (Below w2.heap.size w2 wr)) (fun i _ => ts.len - (intOf i).toNat)
  case atStart => exact ⟨0, Nat.zero_le _, rfl, Lib.hid (fun m hm => by omega), Lib.hid (Below.refl _ _)⟩
  case round =>
    obtain ⟨j, hj, rfl, GG, BR⟩ := hrel
    by_cases hlt : j < ts.len
    · have hp' := Ts.some_of HP.out hlt
      subst hp'
      obtain ⟨k, s, n, pp, cc, kids, rest, HD, EL, hsz1, hoke⟩ := Ts.elem LI.out BR.out OK.out hlt
      have OKE := Lib.hid hoke
      have hss := hoke.2.1
      clear hoke
      have k0 := EL.c0
      have k1 := EL.c1
      have k2 := EL.c2
      have k3 := EL.c3
      go_wp2_with fail
      refine (rGood_any kids (by omega) OKE.out.2.2.2.2.2.1 k s n wr pp cc hss EL.tat).mono ?_
      rintro e w4 ⟨rfl, hB⟩
      replace BR := Lib.hid (BR.out.trans (hB.mono BR.out.size))
      clear hB k0 k1 k2 k3 EL
      by_cases hgd : goodB 64 k s n kids = false
      · rw [hgd]
        clear hgd
        replace BB := Lib.hid (BB.out.trans (BR.out.mono BB.out.size))
        go_wp2_with fail
        refine (wakes2_any _).mono ?_
        rintro e w9 ⟨rfl, hB⟩
        replace BB := Lib.hid (BB.out.trans (hB.mono BB.out.size))
        go_wp2
        go_ret
        exact ⟨rfl, BB.out⟩
      · rw [Bool.not_eq_false] at hgd
        rw [hgd]
        have hgi : goodI (itemAt ts j) := by
          rw [itemAt_eq HD.out]
          rw [goodB, Bool.and_eq_true] at hgd
          exact hgd.2
        have GI := Lib.hid hgi
        clear hgd hgi
        go_wp2
        go_roundw
        case rel => exact ⟨j + 1, by omega, by go_num, Lib.hid (fun m hm => by
            by_cases e : m = j
            · rw [e]; exact GI.out
            · exact GG.out m (by omega)), BR⟩
        case measure => simp [intOf]; omega
    · obtain rfl : j = ts.len := by omega
      replace BB := Lib.hid (BB.out.trans (BR.out.mono BB.out.size))
      have LI3 : Hid (ts.lies wr b o) := Lib.hid (Ts.lies_stay (stays BR.out).1 ts LI.out)
      by_cases h0 : ts.len = 0
      · obtain rfl : ts = .nil := Ts.len_zero h0
        have h00 : Ts.nil.len = 0 := rfl
        clear hlt hj GG BR LI3 LI AT2 h0
        cases p with
        | none =>
          obtain rfl : c = 0 := HL.out.2 rfl
          go_wp2_with fail
          refine (sort_nil _ _ _).mono ?_
          rintro e w7 ⟨p7, c7, rfl, hB⟩
          replace BB := Lib.hid (BB.out.trans (hB.mono BB.out.size))
          clear hB
          go_wp2_with fail
          refine (all_any _ .nil .nil (Nat.lt_succ_self _) trivial trivial (by simp [Ts.len]) (by simp [Ts.len]) w7 _ _ _ _ ⟨0, 0, .inl rfl, trivial⟩ ⟨0, 0, .inl rfl, trivial⟩).mono ?_
          rintro e w8 ⟨rfl, hB⟩
          rw [show alike .nil .nil = true from rfl]
          replace BB := Lib.hid (BB.out.trans (hB.mono BB.out.size))
          clear hB
          go_wp2_with fail
          go_loop [6] (fun s6 => s6 = .int .i64 0) (fun _ => 0)
          case atStart => exact rfl
          case round =>
            obtain rfl := hrel
            go_wp2_with fail
            refine (wakes2_any _).mono ?_
            rintro e w9 ⟨rfl, hB⟩
            replace BB := Lib.hid (BB.out.trans (hB.mono BB.out.size))
            go_wp2
            go_ret
            exact ⟨rfl, BB.out⟩
        | some ad =>
          go_wp2_with (at_builtin; refine wpList_append_own_at _ rfl _ _ 22 rfl wr.heap.size 24 i0 zeroTerm 4 56 Try.underlying22 hi hz0 hz1 hz2 rfl (by decide) _ _ _ rfl (World.ownsRow_nil _ _ _ _) ad 0 c [] rfl rfl (by simp) (by simp) (by unfold maxLen; omega) (by omega) (Nat.le_refl _) ?_; intro v5 w5 hown2 hgrow2 hnil hob; have hv5 := hnil.2 ⟨rfl, rfl⟩; subst hv5; replace BB := Lib.hid (BB.out.trans (Below.mono ((Below.refl _ _).grown (w' := w5) (row := none) hgrow2 (Nat.le_refl _) (fun k hk => by cases hk)) BB.out.size)); clear hown2 hgrow2 hnil hob)
          refine (sort_nil _ _ _).mono ?_
          rintro e w7 ⟨p7, c7, rfl, hB⟩
          replace BB := Lib.hid (BB.out.trans (hB.mono BB.out.size))
          clear hB
          go_wp2_with fail
          refine (all_any _ .nil .nil (Nat.lt_succ_self _) trivial trivial (by simp [Ts.len]) (by simp [Ts.len]) w7 _ _ _ _ ⟨0, 0, .inl rfl, trivial⟩ ⟨0, 0, .inl rfl, trivial⟩).mono ?_
          rintro e w8 ⟨rfl, hB⟩
          rw [show alike .nil .nil = true from rfl]
          replace BB := Lib.hid (BB.out.trans (hB.mono BB.out.size))
          clear hB
          go_wp2_with fail
          go_loop [6] (fun s6 => s6 = .int .i64 0) (fun _ => 0)
          case atStart => exact rfl
          case round =>
            obtain rfl := hrel
            go_wp2_with fail
            refine (wakes2_any _).mono ?_
            rintro e w9 ⟨rfl, hB⟩
            replace BB := Lib.hid (BB.out.trans (hB.mono BB.out.size))
            go_wp2
            go_ret
            exact ⟨rfl, BB.out⟩
      · have hp' := Ts.some_of HP.out (j := 0) (by omega)
        subst hp'
        have hnews : ∀ j u, (cellsL ts)[j]? = some u → wr.cell? ((⟨b, o, none⟩ : Addr).add j) = some u := by
          intro j u hj
          rw [Go.WideShapes.add_plain]
          exact cellsL_of ts LI3.out j u hj
        have HN := Lib.hid hnews
        clear hnews
        go_wp2_with (at_builtin; refine wpList_append_own_at _ rfl _ _ 22 rfl wr.heap.size 24 i0 zeroTerm 4 56 Try.underlying22 hi hz0 hz1 hz2 rfl (by decide) _ _ _ rfl (World.ownsRow_nil _ _ _ _) ⟨b, o, none⟩ ts.len c (cellsL ts) rfl (cellsL_length ts) HN.out (cellsL_one ts) (by unfold maxLen; omega) (by omega) (by omega) ?_; intro v5 W5 hown2 hgrow2 hnil hob; have X := Lib.hid (And.intro hown2 (And.intro hgrow2 hob)); clear hown2 hgrow2 hnil hob)
        have hown := X.out.1
        rw [Nat.zero_add, List.nil_append] at hown
        have hgr : wr.grownBy W5 none := X.out.2.1
        have BW5 : Below wr.heap.size wr W5 := (Below.refl _ _).grown hgr (Nat.le_refl _) (fun k hk => by cases hk)
        rcases hown.2 with ⟨_, h0'⟩ | ⟨g, cap, cur, rfl, hg1, hg2, hg3, hg4, hg5, hg6⟩
        · omega
        obtain ⟨hrow, hfro⟩ := row_cells hg2 hg6 (cellsL_length ts)
        have IT : Hid (Ts.At W5 (some ⟨g, 0, none⟩) ts) := Lib.hid ⟨g, 0, .inr rfl, lies_copy (stays BW5).1 ts LI3.out hrow⟩
        have AT5 : Hid (Ts.At W5 (some ⟨b, o, none⟩) ts) := Lib.hid ⟨b, o, .inr rfl, Ts.lies_stay (stays BW5).1 ts LI3.out⟩
        replace BB := Lib.hid (BB.out.trans (BW5.mono BB.out.size))
        clear hown hgr hg2 hg5 hg6 hrow hfro X HN BW5 BR LI3
        refine (sort_any ts (by omega) (by omega) (by omega) OK.out W5 _ c AT5.out).mono ?_
        rintro e w7 ⟨us, R, d', rfl, htw, hoku, hO, hP, hS, hB⟩
        replace BB := Lib.hid (BB.out.trans (hB.mono BB.out.size))
        replace IT := Lib.hid (IT.out.below hB)
        replace AT5 := Lib.hid (AT5.out.below hB)
        obtain ⟨N, hN⟩ : ∃ N, ts.len = N := ⟨_, rfl⟩
        have hlu : us.len = N := by rw [Ts.twin_len _ _ htw, hN]
        rw [hlu] at hO hP hS ⊢
        have OF := Lib.hid hO
        have PE := Lib.hid hP
        have SO := Lib.hid hS
        have TW := Lib.hid htw
        have HLU := Lib.hid hlu
        have HNN := Lib.hid hN
        have hN30 : N ≤ 30 := by omega
        have hN0 : 0 < N := by omega
        have hNc : N ≤ c := by omega
        rw [hN]
        clear htw hO hP hS hB hlu hN hoku
        go_wp2_with fail
        have hall := fun (w : World) (p p' : Option Addr) (c c' : Nat) (h : Ts.At w p ts) (h' : Ts.At w p' ts) => all_any _ ts ts (Nat.lt_succ_self _) OK.out OK.out (by have := HNN.out; omega) (by have := HNN.out; omega) w p p' c c' h h'
        rw [HNN.out, alike_refl] at hall
        refine (hall w7 _ _ c cap AT5.out IT.out).mono ?_
        rintro e w8 ⟨rfl, hB⟩
        clear hall
        replace BB := Lib.hid (BB.out.trans (hB.mono BB.out.size))
        replace AT5 := Lib.hid (AT5.out.below hB)
        replace OF := Lib.hid (OF.out.below hB)
        clear hB IT
        go_wp2_with fail
        go_loopw [6] (fun s6 wr => ∃ (j : Nat), j ≤ N ∧ s6 = .int .i64 j ∧ Hid (Below w8.heap.size w8 wr)) (fun i _ => N - (intOf i).toNat)
        case atStart => exact ⟨0, Nat.zero_le _, rfl, Lib.hid (Below.refl _ _)⟩
        case round =>
          obtain ⟨j, hj, rfl, BR⟩ := hrel
          by_cases hlt : j < N
          · have hsz' : ∀ i, i < N → (d' i).us.size ≤ 1000 := PE.out.all (P := fun x => x.us.size ≤ 1000) (Nat.le_refl _) (fun i hi => by
              have h1 := itemAt_size (ts := us) (i := i) (by rw [HLU.out]; exact hi)
              have h2 := Ts.twin_size _ _ TW.out
              show (itemAt us i).us.size ≤ 1000
              omega)
            have hgd' : ∀ i, i < N → goodI (d' i) := PE.out.all (P := goodI) (Nat.le_refl _) (fun i hi => goodI_twin TW.out (by rw [HLU.out]; exact hi) (GG.out i (by rw [HNN.out]; exact hi)))
            obtain ⟨⟨k1, s1, n1, p1, c1, u1⟩, hk1⟩ : ∃ x, d' j = x := ⟨_, rfl⟩
            have ox := OF.out.ok j hlt
            rw [hk1] at ox
            have OX := Lib.hid ox
            obtain ⟨cn, hcn⟩ : ∃ cn : Nat, cntA ⟨k1, s1, n1, p1, c1, u1⟩ ts = cn := ⟨_, rfl⟩
            have hcn' : cntA ⟨k1, s1, n1, p1, c1, u1⟩ (tsF d' N) = cn := by
              rw [cntA_tsF, PE.out.cnt _ _ (Nat.le_refl _), ← HLU.out, ← cntA_items, cntA_twin _ TW.out, hcn]
            have cn1 : ∀ W, OwnF R N d' W → Calls Try.prog 38 #[.slice (some ⟨R, 0, none⟩) N N, .agg #[.int .u8 k1, .string s1, .int .i64 n1, .slice p1 u1.len c1]] W fun e w' => e = .returned (.int .i64 cn) ∧ Below W.heap.size W w' := by
              intro W hW
              have h1 := count_any (tsF d' N) ⟨k1, s1, n1, p1, c1, u1⟩ (by have := tsF_size N d' hsz'; have : N * (1000 + 1) ≤ 30 * 1001 := Nat.mul_le_mul_right _ hN30; omega) (by have := tsF_ok hW N 0 (by omega); simpa using this) OX.out W (some ⟨R, 0, none⟩) N (tsF_at hW) (by have := (hW.row j hlt).2.2.2.2.at; rw [hk1] at this; exact this)
              rw [tsF_len, hcn'] at h1
              exact h1
            have cn2 : ∀ W, Below w8.heap.size w8 W → OwnF R N d' W → Calls Try.prog 38 #[.slice (some ⟨b, o, none⟩) N c, .agg #[.int .u8 k1, .string s1, .int .i64 n1, .slice p1 u1.len c1]] W fun e w' => e = .returned (.int .i64 cn) ∧ Below W.heap.size W w' := by
              intro W hB hW
              have h1 := count_any ts ⟨k1, s1, n1, p1, c1, u1⟩ (by omega) OK.out OX.out W (some ⟨b, o, none⟩) c (AT5.out.below hB) (by have := (hW.row j hlt).2.2.2.2.at; rw [hk1] at this; exact this)
              rw [HNN.out, hcn] at h1
              exact h1
            have CN1 := Lib.hid cn1
            have CN2 := Lib.hid cn2
            have K1 := Lib.hid hk1
            have Q1 := Lib.hid hlt
            have t1 : (j : Int) < (N : Int) := by omega
            by_cases hj0 : j = 0
            · have hj0' : ¬ (0 : Int) < (j : Int) := by omega
              have HJ := Lib.hid hj0
              clear hk1 ox hcn hcn' cn1 cn2 hsz' hgd' hj0
              go_wp2_with fail
              refine region_by_facts (fun W => Below w8.heap.size w8 W ∧ OwnF R N d' W)
                [fun v _ => v = .int .i64 j, fun v _ => v = .bool false, fun v _ => v = .bool false, fun v _ => v = undef, fun v _ => v = undef, fun v _ => v = undef, fun v _ => v = undef, fun v _ => v = undef, fun v _ => v = undef, fun v _ => v = undef, fun v _ => v = undef, fun v _ => v = undef, fun v _ => v = undef, fun v _ => v = undef, fun v _ => v = .bool false, fun v _ => v = .bool false, fun v _ => v = .slice (some ⟨R, 0, none⟩) N N, fun v _ => v = .slice (some ⟨R, 0, none⟩) N N, fun v _ => v = .int .i64 j, fun v _ => v = .pointer (some ⟨R, j * 4, none⟩), fun v _ => v = tv k1 s1 n1 p1 u1.len c1, fun v _ => v = .int .i64 cn, fun v _ => v = .slice (some ⟨b, o, none⟩) N c, fun v _ => v = .slice (some ⟨R, 0, none⟩) N N, fun v _ => v = .int .i64 j, fun v _ => v = .pointer (some ⟨R, j * 4, none⟩), fun v _ => v = tv k1 s1 n1 p1 u1.len c1, fun v _ => v = .int .i64 cn, fun v _ => v = .bool false, fun v _ => v = .bool false]
                ⟨.eq _, .eq _, .eq _, .eq _, .eq _, .eq _, .eq _, .eq _, .eq _, .eq _, .eq _, .eq _, .eq _, .eq _, .eq _, .eq _, .eq _, .eq _, .eq _, .eq _, .eq _, .eq _, .eq _, .eq _, .eq _, .eq _, .eq _, .eq _, .eq _, .eq _, trivial⟩
                (by kernel_rfl) (by kernel_rfl) (by kernel_rfl) ?h0 ?steps ?done
              case h0 => exact ⟨below_drewN BR.out 1, (OF.out.below BR.out).below (below_drewN (Below.refl _ _) 1)⟩
              case steps =>
                refine ⟨?_, ?_, ?_, ?_, ?_, ?_, ?_, ?_, ?_, ?_, ?_, ?_, ?_, ?_, ?_, ?_, ?_, ?_, ?_, ?_, ?_, ?_, ?_, ?_, ?_, ?_, ?_, ?_, ?_, ?_, trivial⟩
                · intro f W hI hd K hK
                  simp only [frameOf, Act.put, List.setIfInBounds_toArray, List.set_cons_zero, List.set_cons_succ]
                  go_simp
                  refine hK.out (.int .i64 j) _ W ?_ hI (Below.refl _ _) rfl
                  simp only [frameOf, Act.put, List.setIfInBounds_toArray, List.set_cons_zero, List.set_cons_succ]
                · intro f W hI hd K hK
                  simp only [frameOf, Act.put, List.setIfInBounds_toArray, List.set_cons_zero, List.set_cons_succ]
                  have h0 : f 0 = .int .i64 j := hd 0 (by kernel_rfl)
                  rw [h0]
                  go_simp
                  have e1 : decide ((j : Int) > 0) = false := decide_eq_false (by omega)
                  have e2 : decide (0 < (j : Int)) = false := decide_eq_false (by omega)
                  refine hK.out (.bool false) _ W ?_ hI (Below.refl _ _) rfl
                  first
                    | (simp only [frameOf, Act.put, List.setIfInBounds_toArray, List.set_cons_zero, List.set_cons_succ, Nat.zero_add, Nat.reduceAdd, h0]; done)
                    | (simp only [frameOf, Act.put, List.setIfInBounds_toArray, List.set_cons_zero, List.set_cons_succ, Nat.zero_add, Nat.reduceAdd, h0, e1, e2]; done)
                    | (simp only [frameOf, Act.put, List.setIfInBounds_toArray, List.set_cons_zero, List.set_cons_succ, Nat.zero_add, Nat.reduceAdd, h0]; simp only [Act.mk.injEq, Array.mk.injEq, List.cons.injEq, true_and, and_true, Value.bool.injEq]; first | exact e1 | exact e2 | exact e1.symm | simpa using e1 | (trace_state; fail))
                · intro f W hI hd K hK
                  simp only [frameOf, Act.put, List.setIfInBounds_toArray, List.set_cons_zero, List.set_cons_succ]
                  have h1 : f 1 = .bool false := hd 1 (by kernel_rfl)
                  rw [h1]
                  go_simp
                  refine hK.out (.bool false) _ W ?_ hI (Below.refl _ _) rfl
                  simp only [frameOf, Act.put, List.setIfInBounds_toArray, List.set_cons_zero, List.set_cons_succ, Nat.zero_add, Nat.reduceAdd, h1]
                · intro f W hI hd K hK
                  simp only [frameOf, Act.put, List.setIfInBounds_toArray, List.set_cons_zero, List.set_cons_succ]
                  have h2 : f 2 = .bool false := hd 2 (by kernel_rfl)
                  rw [h2]
                  go_simp
                  refine hK.out (undef) _ W ?_ hI (Below.refl _ _) rfl
                  simp only [frameOf, Act.put, List.setIfInBounds_toArray, List.set_cons_zero, List.set_cons_succ, Nat.zero_add, Nat.reduceAdd, h2]
                · intro f W hI hd K hK
                  simp only [frameOf, Act.put, List.setIfInBounds_toArray, List.set_cons_zero, List.set_cons_succ]
                  have h2 : f 2 = .bool false := hd 2 (by kernel_rfl)
                  rw [h2]
                  go_simp
                  refine hK.out (undef) _ W ?_ hI (Below.refl _ _) rfl
                  simp only [frameOf, Act.put, List.setIfInBounds_toArray, List.set_cons_zero, List.set_cons_succ, Nat.zero_add, Nat.reduceAdd, h2]
                · intro f W hI hd K hK
                  simp only [frameOf, Act.put, List.setIfInBounds_toArray, List.set_cons_zero, List.set_cons_succ]
                  have h2 : f 2 = .bool false := hd 2 (by kernel_rfl)
                  rw [h2]
                  go_simp
                  refine hK.out (undef) _ W ?_ hI (Below.refl _ _) rfl
                  simp only [frameOf, Act.put, List.setIfInBounds_toArray, List.set_cons_zero, List.set_cons_succ, Nat.zero_add, Nat.reduceAdd, h2]
                · intro f W hI hd K hK
                  simp only [frameOf, Act.put, List.setIfInBounds_toArray, List.set_cons_zero, List.set_cons_succ]
                  have h2 : f 2 = .bool false := hd 2 (by kernel_rfl)
                  rw [h2]
                  go_simp
                  refine hK.out (undef) _ W ?_ hI (Below.refl _ _) rfl
                  simp only [frameOf, Act.put, List.setIfInBounds_toArray, List.set_cons_zero, List.set_cons_succ, Nat.zero_add, Nat.reduceAdd, h2]
                · intro f W hI hd K hK
                  simp only [frameOf, Act.put, List.setIfInBounds_toArray, List.set_cons_zero, List.set_cons_succ]
                  have h2 : f 2 = .bool false := hd 2 (by kernel_rfl)
                  rw [h2]
                  go_simp
                  refine hK.out (undef) _ W ?_ hI (Below.refl _ _) rfl
                  simp only [frameOf, Act.put, List.setIfInBounds_toArray, List.set_cons_zero, List.set_cons_succ, Nat.zero_add, Nat.reduceAdd, h2]
                · intro f W hI hd K hK
                  simp only [frameOf, Act.put, List.setIfInBounds_toArray, List.set_cons_zero, List.set_cons_succ]
                  have h2 : f 2 = .bool false := hd 2 (by kernel_rfl)
                  rw [h2]
                  go_simp
                  refine hK.out (undef) _ W ?_ hI (Below.refl _ _) rfl
                  simp only [frameOf, Act.put, List.setIfInBounds_toArray, List.set_cons_zero, List.set_cons_succ, Nat.zero_add, Nat.reduceAdd, h2]
                · intro f W hI hd K hK
                  simp only [frameOf, Act.put, List.setIfInBounds_toArray, List.set_cons_zero, List.set_cons_succ]
                  have h2 : f 2 = .bool false := hd 2 (by kernel_rfl)
                  rw [h2]
                  go_simp
                  refine hK.out (undef) _ W ?_ hI (Below.refl _ _) rfl
                  simp only [frameOf, Act.put, List.setIfInBounds_toArray, List.set_cons_zero, List.set_cons_succ, Nat.zero_add, Nat.reduceAdd, h2]
                · intro f W hI hd K hK
                  simp only [frameOf, Act.put, List.setIfInBounds_toArray, List.set_cons_zero, List.set_cons_succ]
                  have h2 : f 2 = .bool false := hd 2 (by kernel_rfl)
                  rw [h2]
                  go_simp
                  refine hK.out (undef) _ W ?_ hI (Below.refl _ _) rfl
                  simp only [frameOf, Act.put, List.setIfInBounds_toArray, List.set_cons_zero, List.set_cons_succ, Nat.zero_add, Nat.reduceAdd, h2]
                · intro f W hI hd K hK
                  simp only [frameOf, Act.put, List.setIfInBounds_toArray, List.set_cons_zero, List.set_cons_succ]
                  have h2 : f 2 = .bool false := hd 2 (by kernel_rfl)
                  rw [h2]
                  go_simp
                  refine hK.out (undef) _ W ?_ hI (Below.refl _ _) rfl
                  simp only [frameOf, Act.put, List.setIfInBounds_toArray, List.set_cons_zero, List.set_cons_succ, Nat.zero_add, Nat.reduceAdd, h2]
                · intro f W hI hd K hK
                  simp only [frameOf, Act.put, List.setIfInBounds_toArray, List.set_cons_zero, List.set_cons_succ]
                  have h2 : f 2 = .bool false := hd 2 (by kernel_rfl)
                  rw [h2]
                  go_simp
                  refine hK.out (undef) _ W ?_ hI (Below.refl _ _) rfl
                  simp only [frameOf, Act.put, List.setIfInBounds_toArray, List.set_cons_zero, List.set_cons_succ, Nat.zero_add, Nat.reduceAdd, h2]
                · intro f W hI hd K hK
                  simp only [frameOf, Act.put, List.setIfInBounds_toArray, List.set_cons_zero, List.set_cons_succ]
                  have h2 : f 2 = .bool false := hd 2 (by kernel_rfl)
                  rw [h2]
                  go_simp
                  refine hK.out (undef) _ W ?_ hI (Below.refl _ _) rfl
                  simp only [frameOf, Act.put, List.setIfInBounds_toArray, List.set_cons_zero, List.set_cons_succ, Nat.zero_add, Nat.reduceAdd, h2]
                · intro f W hI hd K hK
                  simp only [frameOf, Act.put, List.setIfInBounds_toArray, List.set_cons_zero, List.set_cons_succ]
                  have h2 : f 2 = .bool false := hd 2 (by kernel_rfl)
                  rw [h2]
                  go_simp
                  refine hK.out (.bool false) _ W ?_ hI (Below.refl _ _) rfl
                  simp only [frameOf, Act.put, List.setIfInBounds_toArray, List.set_cons_zero, List.set_cons_succ, Nat.zero_add, Nat.reduceAdd, h2]
                · intro f W hI hd K hK
                  simp only [frameOf, Act.put, List.setIfInBounds_toArray, List.set_cons_zero, List.set_cons_succ]
                  have h14 : f 14 = .bool false := hd 14 (by kernel_rfl)
                  rw [h14]
                  go_simp
                  refine hK.out (.bool false) _ W ?_ hI (Below.refl _ _) rfl
                  simp only [frameOf, Act.put, List.setIfInBounds_toArray, List.set_cons_zero, List.set_cons_succ, Nat.zero_add, Nat.reduceAdd, h14]
                · intro f W hI hd K hK
                  simp only [frameOf, Act.put, List.setIfInBounds_toArray, List.set_cons_zero, List.set_cons_succ]
                  have h15 : f 15 = .bool false := hd 15 (by kernel_rfl)
                  rw [h15]
                  go_simp
                  refine hK.out (.slice (some ⟨R, 0, none⟩) N N) _ W ?_ hI (Below.refl _ _) rfl
                  simp only [frameOf, Act.put, List.setIfInBounds_toArray, List.set_cons_zero, List.set_cons_succ, Nat.zero_add, Nat.reduceAdd, h15]
                · intro f W hI hd K hK
                  simp only [frameOf, Act.put, List.setIfInBounds_toArray, List.set_cons_zero, List.set_cons_succ]
                  have h15 : f 15 = .bool false := hd 15 (by kernel_rfl)
                  rw [h15]
                  go_simp
                  refine hK.out (.slice (some ⟨R, 0, none⟩) N N) _ W ?_ hI (Below.refl _ _) rfl
                  simp only [frameOf, Act.put, List.setIfInBounds_toArray, List.set_cons_zero, List.set_cons_succ, Nat.zero_add, Nat.reduceAdd, h15]
                · intro f W hI hd K hK
                  simp only [frameOf, Act.put, List.setIfInBounds_toArray, List.set_cons_zero, List.set_cons_succ]
                  have h15 : f 15 = .bool false := hd 15 (by kernel_rfl)
                  rw [h15]
                  go_simp
                  refine hK.out (.int .i64 j) _ W ?_ hI (Below.refl _ _) rfl
                  simp only [frameOf, Act.put, List.setIfInBounds_toArray, List.set_cons_zero, List.set_cons_succ, Nat.zero_add, Nat.reduceAdd, h15]
                · intro f W hI hd K hK
                  simp only [frameOf, Act.put, List.setIfInBounds_toArray, List.set_cons_zero, List.set_cons_succ]
                  have h15 : f 15 = .bool false := hd 15 (by kernel_rfl)
                  have h17 : f 17 = .slice (some ⟨R, 0, none⟩) N N := hd 17 (by kernel_rfl)
                  have h18 : f 18 = .int .i64 j := hd 18 (by kernel_rfl)
                  rw [h15, h17, h18]
                  go_simp
                  refine hK.out (.pointer (some ⟨R, j * 4, none⟩)) _ W ?_ hI (Below.refl _ _) rfl
                  simp only [frameOf, Act.put, List.setIfInBounds_toArray, List.set_cons_zero, List.set_cons_succ, Nat.zero_add, Nat.reduceAdd, h15, h17, h18]
                · intro f W hI hd K hK
                  simp only [frameOf, Act.put, List.setIfInBounds_toArray, List.set_cons_zero, List.set_cons_succ]
                  have h15 : f 15 = .bool false := hd 15 (by kernel_rfl)
                  have h19 : f 19 = .pointer (some ⟨R, j * 4, none⟩) := hd 19 (by kernel_rfl)
                  have hr := hI.2.row j Q1.out
                  rw [K1.out] at hr
                  obtain ⟨g0, g1, g2, g3, -⟩ := hr
                  simp only at g0 g1 g2 g3
                  rw [h15, h19]
                  go_simp
                  refine hK.out (tv k1 s1 n1 p1 u1.len c1) _ W ?_ hI (Below.refl _ _) rfl
                  simp only [tv, frameOf, Act.put, List.setIfInBounds_toArray, List.set_cons_zero, List.set_cons_succ, Nat.zero_add, Nat.reduceAdd, h15, h19]
                · intro f W hI hd K hK
                  simp only [frameOf, Act.put, List.setIfInBounds_toArray, List.set_cons_zero, List.set_cons_succ]
                  have h15 : f 15 = .bool false := hd 15 (by kernel_rfl)
                  have h16 : f 16 = .slice (some ⟨R, 0, none⟩) N N := hd 16 (by kernel_rfl)
                  have h20 : f 20 = tv k1 s1 n1 p1 u1.len c1 := hd 20 (by kernel_rfl)
                  unfold tv at h20
                  rw [h15, h16, h20]
                  go_simp
                  refine (CN1.out W hI.2).mono ?_
                  rintro e w' ⟨rfl, hB⟩
                  refine hK.out (.int .i64 cn) _ _ ?_ ⟨hI.1.trans (hB.mono hI.1.size), hI.2.below hB⟩ hB rfl
                  simp only [frameOf, Act.put, List.setIfInBounds_toArray, List.set_cons_zero, List.set_cons_succ, Nat.zero_add, Nat.reduceAdd, h15, h16, h20]
                · intro f W hI hd K hK
                  simp only [frameOf, Act.put, List.setIfInBounds_toArray, List.set_cons_zero, List.set_cons_succ]
                  have h15 : f 15 = .bool false := hd 15 (by kernel_rfl)
                  rw [h15]
                  go_simp
                  refine hK.out (.slice (some ⟨b, o, none⟩) N c) _ W ?_ hI (Below.refl _ _) rfl
                  simp only [frameOf, Act.put, List.setIfInBounds_toArray, List.set_cons_zero, List.set_cons_succ, Nat.zero_add, Nat.reduceAdd, h15]
                · intro f W hI hd K hK
                  simp only [frameOf, Act.put, List.setIfInBounds_toArray, List.set_cons_zero, List.set_cons_succ]
                  have h15 : f 15 = .bool false := hd 15 (by kernel_rfl)
                  rw [h15]
                  go_simp
                  refine hK.out (.slice (some ⟨R, 0, none⟩) N N) _ W ?_ hI (Below.refl _ _) rfl
                  simp only [frameOf, Act.put, List.setIfInBounds_toArray, List.set_cons_zero, List.set_cons_succ, Nat.zero_add, Nat.reduceAdd, h15]
                · intro f W hI hd K hK
                  simp only [frameOf, Act.put, List.setIfInBounds_toArray, List.set_cons_zero, List.set_cons_succ]
                  have h15 : f 15 = .bool false := hd 15 (by kernel_rfl)
                  rw [h15]
                  go_simp
                  refine hK.out (.int .i64 j) _ W ?_ hI (Below.refl _ _) rfl
                  simp only [frameOf, Act.put, List.setIfInBounds_toArray, List.set_cons_zero, List.set_cons_succ, Nat.zero_add, Nat.reduceAdd, h15]
                · intro f W hI hd K hK
                  simp only [frameOf, Act.put, List.setIfInBounds_toArray, List.set_cons_zero, List.set_cons_succ]
                  have h15 : f 15 = .bool false := hd 15 (by kernel_rfl)
                  have h23 : f 23 = .slice (some ⟨R, 0, none⟩) N N := hd 23 (by kernel_rfl)
                  have h24 : f 24 = .int .i64 j := hd 24 (by kernel_rfl)
                  rw [h15, h23, h24]
                  go_simp
                  refine hK.out (.pointer (some ⟨R, j * 4, none⟩)) _ W ?_ hI (Below.refl _ _) rfl
                  simp only [frameOf, Act.put, List.setIfInBounds_toArray, List.set_cons_zero, List.set_cons_succ, Nat.zero_add, Nat.reduceAdd, h15, h23, h24]
                · intro f W hI hd K hK
                  simp only [frameOf, Act.put, List.setIfInBounds_toArray, List.set_cons_zero, List.set_cons_succ]
                  have h15 : f 15 = .bool false := hd 15 (by kernel_rfl)
                  have h25 : f 25 = .pointer (some ⟨R, j * 4, none⟩) := hd 25 (by kernel_rfl)
                  have hr := hI.2.row j Q1.out
                  rw [K1.out] at hr
                  obtain ⟨g0, g1, g2, g3, -⟩ := hr
                  simp only at g0 g1 g2 g3
                  rw [h15, h25]
                  go_simp
                  refine hK.out (tv k1 s1 n1 p1 u1.len c1) _ W ?_ hI (Below.refl _ _) rfl
                  simp only [tv, frameOf, Act.put, List.setIfInBounds_toArray, List.set_cons_zero, List.set_cons_succ, Nat.zero_add, Nat.reduceAdd, h15, h25]
                · intro f W hI hd K hK
                  simp only [frameOf, Act.put, List.setIfInBounds_toArray, List.set_cons_zero, List.set_cons_succ]
                  have h15 : f 15 = .bool false := hd 15 (by kernel_rfl)
                  have h22 : f 22 = .slice (some ⟨b, o, none⟩) N c := hd 22 (by kernel_rfl)
                  have h26 : f 26 = tv k1 s1 n1 p1 u1.len c1 := hd 26 (by kernel_rfl)
                  unfold tv at h26
                  rw [h15, h22, h26]
                  go_simp
                  refine (CN2.out W hI.1 hI.2).mono ?_
                  rintro e w' ⟨rfl, hB⟩
                  refine hK.out (.int .i64 cn) _ _ ?_ ⟨hI.1.trans (hB.mono hI.1.size), hI.2.below hB⟩ hB rfl
                  simp only [frameOf, Act.put, List.setIfInBounds_toArray, List.set_cons_zero, List.set_cons_succ, Nat.zero_add, Nat.reduceAdd, h15, h22, h26]
                · intro f W hI hd K hK
                  simp only [frameOf, Act.put, List.setIfInBounds_toArray, List.set_cons_zero, List.set_cons_succ]
                  have h15 : f 15 = .bool false := hd 15 (by kernel_rfl)
                  have h21 : f 21 = .int .i64 cn := hd 21 (by kernel_rfl)
                  have h27 : f 27 = .int .i64 cn := hd 27 (by kernel_rfl)
                  rw [h15, h21, h27]
                  go_simp
                  refine hK.out (.bool false) _ W ?_ hI (Below.refl _ _) rfl
                  simp only [frameOf, Act.put, List.setIfInBounds_toArray, List.set_cons_zero, List.set_cons_succ, Nat.zero_add, Nat.reduceAdd, h15, h21, h27]
                · intro f W hI hd K hK
                  simp only [frameOf, Act.put, List.setIfInBounds_toArray, List.set_cons_zero, List.set_cons_succ]
                  have h15 : f 15 = .bool false := hd 15 (by kernel_rfl)
                  have h28 : f 28 = .bool false := hd 28 (by kernel_rfl)
                  rw [h15, h28]
                  go_simp
                  refine hK.out (.bool false) _ W ?_ hI (Below.refl _ _) rfl
                  simp only [frameOf, Act.put, List.setIfInBounds_toArray, List.set_cons_zero, List.set_cons_succ, Nat.zero_add, Nat.reduceAdd, h15, h28]
              case done =>
                intro f W hI hF
                have hlast : f 29 = .bool false := hF 29 (by decide)
                simp only [frameOf, Act.put, List.setIfInBounds_toArray, List.set_cons_zero, List.set_cons_succ]
                rw [hlast]
                clear hF hlast
                obtain ⟨hBW, -⟩ := hI
                replace BR := Lib.hid hBW
                clear hBW
                go_wp2
                go_roundw
                case rel => exact ⟨j + 1, by omega, by go_num, BR⟩
                case measure => simp [intOf]; omega
            · obtain ⟨jm, hjm⟩ : ∃ jm, j - 1 = jm := ⟨_, rfl⟩
              have hjmN : jm < N := by omega
              obtain ⟨⟨k2, s2, n2, p2, c2, u2⟩, hk2⟩ : ∃ x, d' jm = x := ⟨_, rfl⟩
              have oy := OF.out.ok jm hjmN
              rw [hk2] at oy
              have OY := Lib.hid oy
              obtain ⟨cv, hcv⟩ : ∃ cv, cmI (d' jm) (d' j) = cv := ⟨_, rfl⟩
              have hcv0 : ¬ 0 < cv := by
                have := SO.out jm j (Nat.zero_le _) (by omega) hlt
                omega
              have g1 := hgd' j hlt
              have g2 := hgd' jm hjmN
              have z2 := hsz' jm hjmN
              rw [hk1] at g1
              rw [hk2] at g2 z2
              have cmp : ∀ W, OwnF R N d' W → Calls Try.prog 35 #[.agg #[.int .u8 k2, .string s2, .int .i64 n2, .slice p2 u2.len c2], .agg #[.int .u8 k1, .string s1, .int .i64 n1, .slice p1 u1.len c1]] W fun e w' => e = .returned (.int .i64 cv) ∧ Below W.heap.size W w' := by
                intro W hW
                have a1 := (hW.row j hlt).2.2.2.2.at
                have a2 := (hW.row jm hjmN).2.2.2.2.at
                rw [hk1] at a1
                rw [hk2] at a2
                rw [← hcv, hk1, hk2]
                exact rcompare_any _ u2 (Nat.lt_succ_self _) (by have : u2.size ≤ 1000 := z2; omega) u1 k2 k1 s2 s1 n2 n1 W p2 p1 c2 c1 OY.out OX.out g2 g1 a2 a1
              have CMP := Lib.hid cmp
              have K2 := Lib.hid hk2
              have Q2 := Lib.hid hjmN
              have t3 : (j : Int) - 1 = (jm : Int) := by omega
              have t2 : (jm : Int) < (N : Int) := by omega
              have hj0' : (0 : Int) < (j : Int) := by omega
              have HJ := Lib.hid hjm
              clear hk1 hk2 ox oy hcn hcn' cn1 cn2 hsz' hgd' g1 g2 z2 cmp hcv hjm hj0
              go_wp2_with fail
              refine region_by_facts (fun W => Below w8.heap.size w8 W ∧ OwnF R N d' W)
                [fun v _ => v = .int .i64 j, fun v _ => v = .bool true, fun v _ => v = .bool true, fun v _ => v = .slice (some ⟨R, 0, none⟩) N N, fun v _ => v = .int .i64 j, fun v _ => v = .int .i64 jm, fun v _ => v = .pointer (some ⟨R, jm * 4, none⟩), fun v _ => v = tv k2 s2 n2 p2 u2.len c2, fun v _ => v = .slice (some ⟨R, 0, none⟩) N N, fun v _ => v = .int .i64 j, fun v _ => v = .pointer (some ⟨R, j * 4, none⟩), fun v _ => v = tv k1 s1 n1 p1 u1.len c1, fun v _ => v = .int .i64 cv, fun v _ => v = .bool false, fun v _ => v = .bool false, fun v _ => v = .bool false, fun v _ => v = .slice (some ⟨R, 0, none⟩) N N, fun v _ => v = .slice (some ⟨R, 0, none⟩) N N, fun v _ => v = .int .i64 j, fun v _ => v = .pointer (some ⟨R, j * 4, none⟩), fun v _ => v = tv k1 s1 n1 p1 u1.len c1, fun v _ => v = .int .i64 cn, fun v _ => v = .slice (some ⟨b, o, none⟩) N c, fun v _ => v = .slice (some ⟨R, 0, none⟩) N N, fun v _ => v = .int .i64 j, fun v _ => v = .pointer (some ⟨R, j * 4, none⟩), fun v _ => v = tv k1 s1 n1 p1 u1.len c1, fun v _ => v = .int .i64 cn, fun v _ => v = .bool false, fun v _ => v = .bool false]
                ⟨.eq _, .eq _, .eq _, .eq _, .eq _, .eq _, .eq _, .eq _, .eq _, .eq _, .eq _, .eq _, .eq _, .eq _, .eq _, .eq _, .eq _, .eq _, .eq _, .eq _, .eq _, .eq _, .eq _, .eq _, .eq _, .eq _, .eq _, .eq _, .eq _, .eq _, trivial⟩
                (by kernel_rfl) (by kernel_rfl) (by kernel_rfl) ?h0 ?steps ?done
              case h0 => exact ⟨below_drewN BR.out 1, (OF.out.below BR.out).below (below_drewN (Below.refl _ _) 1)⟩
              case steps =>
                refine ⟨?_, ?_, ?_, ?_, ?_, ?_, ?_, ?_, ?_, ?_, ?_, ?_, ?_, ?_, ?_, ?_, ?_, ?_, ?_, ?_, ?_, ?_, ?_, ?_, ?_, ?_, ?_, ?_, ?_, ?_, trivial⟩
                · intro f W hI hd K hK
                  simp only [frameOf, Act.put, List.setIfInBounds_toArray, List.set_cons_zero, List.set_cons_succ]
                  go_simp
                  refine hK.out (.int .i64 j) _ W ?_ hI (Below.refl _ _) rfl
                  simp only [frameOf, Act.put, List.setIfInBounds_toArray, List.set_cons_zero, List.set_cons_succ]
                · intro f W hI hd K hK
                  simp only [frameOf, Act.put, List.setIfInBounds_toArray, List.set_cons_zero, List.set_cons_succ]
                  have h0 : f 0 = .int .i64 j := hd 0 (by kernel_rfl)
                  rw [h0]
                  go_simp
                  have e1 : decide ((j : Int) > 0) = true := decide_eq_true (by omega)
                  have e2 : decide (0 < (j : Int)) = true := decide_eq_true (by omega)
                  refine hK.out (.bool true) _ W ?_ hI (Below.refl _ _) rfl
                  first
                    | (simp only [frameOf, Act.put, List.setIfInBounds_toArray, List.set_cons_zero, List.set_cons_succ, Nat.zero_add, Nat.reduceAdd, h0]; done)
                    | (simp only [frameOf, Act.put, List.setIfInBounds_toArray, List.set_cons_zero, List.set_cons_succ, Nat.zero_add, Nat.reduceAdd, h0, e1, e2]; done)
                    | (simp only [frameOf, Act.put, List.setIfInBounds_toArray, List.set_cons_zero, List.set_cons_succ, Nat.zero_add, Nat.reduceAdd, h0]; simp only [Act.mk.injEq, Array.mk.injEq, List.cons.injEq, true_and, and_true, Value.bool.injEq]; first | exact e1 | exact e2 | exact e1.symm | simpa using e1 | (trace_state; fail))
                · intro f W hI hd K hK
                  simp only [frameOf, Act.put, List.setIfInBounds_toArray, List.set_cons_zero, List.set_cons_succ]
                  have h1 : f 1 = .bool true := hd 1 (by kernel_rfl)
                  rw [h1]
                  go_simp
                  refine hK.out (.bool true) _ W ?_ hI (Below.refl _ _) rfl
                  simp only [frameOf, Act.put, List.setIfInBounds_toArray, List.set_cons_zero, List.set_cons_succ, Nat.zero_add, Nat.reduceAdd, h1]
                · intro f W hI hd K hK
                  simp only [frameOf, Act.put, List.setIfInBounds_toArray, List.set_cons_zero, List.set_cons_succ]
                  have h2 : f 2 = .bool true := hd 2 (by kernel_rfl)
                  rw [h2]
                  go_simp
                  refine hK.out (.slice (some ⟨R, 0, none⟩) N N) _ W ?_ hI (Below.refl _ _) rfl
                  simp only [frameOf, Act.put, List.setIfInBounds_toArray, List.set_cons_zero, List.set_cons_succ, Nat.zero_add, Nat.reduceAdd, h2]
                · intro f W hI hd K hK
                  simp only [frameOf, Act.put, List.setIfInBounds_toArray, List.set_cons_zero, List.set_cons_succ]
                  have h2 : f 2 = .bool true := hd 2 (by kernel_rfl)
                  rw [h2]
                  go_simp
                  refine hK.out (.int .i64 j) _ W ?_ hI (Below.refl _ _) rfl
                  simp only [frameOf, Act.put, List.setIfInBounds_toArray, List.set_cons_zero, List.set_cons_succ, Nat.zero_add, Nat.reduceAdd, h2]
                · intro f W hI hd K hK
                  simp only [frameOf, Act.put, List.setIfInBounds_toArray, List.set_cons_zero, List.set_cons_succ]
                  have h2 : f 2 = .bool true := hd 2 (by kernel_rfl)
                  have h4 : f 4 = .int .i64 j := hd 4 (by kernel_rfl)
                  rw [h2, h4]
                  go_simp
                  have hab2 : IntKind.i64.wrap ((j : Int) - 1) = (jm : Int) := by rw [IntKind.wrap_i64]; omega
                  have hab3 : IntKind.i64.wrap (jm : Int) = (jm : Int) := by rw [IntKind.wrap_i64]; omega
                  refine hK.out (.int .i64 jm) _ W ?_ hI (Below.refl _ _) rfl
                  simp only [frameOf, Act.put, List.setIfInBounds_toArray, List.set_cons_zero, List.set_cons_succ, Nat.zero_add, Nat.reduceAdd, h2, h4]
                  simp only [Act.mk.injEq, Array.mk.injEq, List.cons.injEq, true_and, and_true, Value.int.injEq]
                  first | exact hab2 | exact hab3 | (rw [t3]; exact hab3) | omega
                · intro f W hI hd K hK
                  simp only [frameOf, Act.put, List.setIfInBounds_toArray, List.set_cons_zero, List.set_cons_succ]
                  have h2 : f 2 = .bool true := hd 2 (by kernel_rfl)
                  have h3 : f 3 = .slice (some ⟨R, 0, none⟩) N N := hd 3 (by kernel_rfl)
                  have h5 : f 5 = .int .i64 jm := hd 5 (by kernel_rfl)
                  rw [h2, h3, h5]
                  go_simp
                  refine hK.out (.pointer (some ⟨R, jm * 4, none⟩)) _ W ?_ hI (Below.refl _ _) rfl
                  simp only [frameOf, Act.put, List.setIfInBounds_toArray, List.set_cons_zero, List.set_cons_succ, Nat.zero_add, Nat.reduceAdd, h2, h3, h5]
                · intro f W hI hd K hK
                  simp only [frameOf, Act.put, List.setIfInBounds_toArray, List.set_cons_zero, List.set_cons_succ]
                  have h2 : f 2 = .bool true := hd 2 (by kernel_rfl)
                  have h6 : f 6 = .pointer (some ⟨R, jm * 4, none⟩) := hd 6 (by kernel_rfl)
                  have hr := hI.2.row jm Q2.out
                  rw [K2.out] at hr
                  obtain ⟨g0, g1, g2, g3, -⟩ := hr
                  simp only at g0 g1 g2 g3
                  rw [h2, h6]
                  go_simp
                  refine hK.out (tv k2 s2 n2 p2 u2.len c2) _ W ?_ hI (Below.refl _ _) rfl
                  simp only [tv, frameOf, Act.put, List.setIfInBounds_toArray, List.set_cons_zero, List.set_cons_succ, Nat.zero_add, Nat.reduceAdd, h2, h6]
                · intro f W hI hd K hK
                  simp only [frameOf, Act.put, List.setIfInBounds_toArray, List.set_cons_zero, List.set_cons_succ]
                  have h2 : f 2 = .bool true := hd 2 (by kernel_rfl)
                  rw [h2]
                  go_simp
                  refine hK.out (.slice (some ⟨R, 0, none⟩) N N) _ W ?_ hI (Below.refl _ _) rfl
                  simp only [frameOf, Act.put, List.setIfInBounds_toArray, List.set_cons_zero, List.set_cons_succ, Nat.zero_add, Nat.reduceAdd, h2]
                · intro f W hI hd K hK
                  simp only [frameOf, Act.put, List.setIfInBounds_toArray, List.set_cons_zero, List.set_cons_succ]
                  have h2 : f 2 = .bool true := hd 2 (by kernel_rfl)
                  rw [h2]
                  go_simp
                  refine hK.out (.int .i64 j) _ W ?_ hI (Below.refl _ _) rfl
                  simp only [frameOf, Act.put, List.setIfInBounds_toArray, List.set_cons_zero, List.set_cons_succ, Nat.zero_add, Nat.reduceAdd, h2]
                · intro f W hI hd K hK
                  simp only [frameOf, Act.put, List.setIfInBounds_toArray, List.set_cons_zero, List.set_cons_succ]
                  have h2 : f 2 = .bool true := hd 2 (by kernel_rfl)
                  have h8 : f 8 = .slice (some ⟨R, 0, none⟩) N N := hd 8 (by kernel_rfl)
                  have h9 : f 9 = .int .i64 j := hd 9 (by kernel_rfl)
                  rw [h2, h8, h9]
                  go_simp
                  refine hK.out (.pointer (some ⟨R, j * 4, none⟩)) _ W ?_ hI (Below.refl _ _) rfl
                  simp only [frameOf, Act.put, List.setIfInBounds_toArray, List.set_cons_zero, List.set_cons_succ, Nat.zero_add, Nat.reduceAdd, h2, h8, h9]
                · intro f W hI hd K hK
                  simp only [frameOf, Act.put, List.setIfInBounds_toArray, List.set_cons_zero, List.set_cons_succ]
                  have h2 : f 2 = .bool true := hd 2 (by kernel_rfl)
                  have h10 : f 10 = .pointer (some ⟨R, j * 4, none⟩) := hd 10 (by kernel_rfl)
                  have hr := hI.2.row j Q1.out
                  rw [K1.out] at hr
                  obtain ⟨g0, g1, g2, g3, -⟩ := hr
                  simp only at g0 g1 g2 g3
                  rw [h2, h10]
                  go_simp
                  refine hK.out (tv k1 s1 n1 p1 u1.len c1) _ W ?_ hI (Below.refl _ _) rfl
                  simp only [tv, frameOf, Act.put, List.setIfInBounds_toArray, List.set_cons_zero, List.set_cons_succ, Nat.zero_add, Nat.reduceAdd, h2, h10]
                · intro f W hI hd K hK
                  simp only [frameOf, Act.put, List.setIfInBounds_toArray, List.set_cons_zero, List.set_cons_succ]
                  have h2 : f 2 = .bool true := hd 2 (by kernel_rfl)
                  have h7 : f 7 = tv k2 s2 n2 p2 u2.len c2 := hd 7 (by kernel_rfl)
                  unfold tv at h7
                  have h11 : f 11 = tv k1 s1 n1 p1 u1.len c1 := hd 11 (by kernel_rfl)
                  unfold tv at h11
                  rw [h2, h7, h11]
                  go_simp
                  refine (CMP.out W hI.2).mono ?_
                  rintro e w' ⟨rfl, hB⟩
                  refine hK.out (.int .i64 cv) _ _ ?_ ⟨hI.1.trans (hB.mono hI.1.size), hI.2.below hB⟩ hB rfl
                  simp only [frameOf, Act.put, List.setIfInBounds_toArray, List.set_cons_zero, List.set_cons_succ, Nat.zero_add, Nat.reduceAdd, h2, h7, h11]
                · intro f W hI hd K hK
                  simp only [frameOf, Act.put, List.setIfInBounds_toArray, List.set_cons_zero, List.set_cons_succ]
                  have h2 : f 2 = .bool true := hd 2 (by kernel_rfl)
                  have h12 : f 12 = .int .i64 cv := hd 12 (by kernel_rfl)
                  rw [h2, h12]
                  go_simp
                  have e1 : decide (cv > 0) = false := decide_eq_false (by omega)
                  have e2 : decide (0 < cv) = false := decide_eq_false (by omega)
                  refine hK.out (.bool false) _ W ?_ hI (Below.refl _ _) rfl
                  first
                    | (simp only [frameOf, Act.put, List.setIfInBounds_toArray, List.set_cons_zero, List.set_cons_succ, Nat.zero_add, Nat.reduceAdd, h2, h12]; done)
                    | (simp only [frameOf, Act.put, List.setIfInBounds_toArray, List.set_cons_zero, List.set_cons_succ, Nat.zero_add, Nat.reduceAdd, h2, h12, e1, e2]; done)
                    | (simp only [frameOf, Act.put, List.setIfInBounds_toArray, List.set_cons_zero, List.set_cons_succ, Nat.zero_add, Nat.reduceAdd, h2, h12]; simp only [Act.mk.injEq, Array.mk.injEq, List.cons.injEq, true_and, and_true, Value.bool.injEq]; first | exact e1 | exact e2 | exact e1.symm | simpa using e1 | (trace_state; fail))
                · intro f W hI hd K hK
                  simp only [frameOf, Act.put, List.setIfInBounds_toArray, List.set_cons_zero, List.set_cons_succ]
                  have h2 : f 2 = .bool true := hd 2 (by kernel_rfl)
                  have h13 : f 13 = .bool false := hd 13 (by kernel_rfl)
                  rw [h2, h13]
                  go_simp
                  refine hK.out (.bool false) _ W ?_ hI (Below.refl _ _) rfl
                  simp only [frameOf, Act.put, List.setIfInBounds_toArray, List.set_cons_zero, List.set_cons_succ, Nat.zero_add, Nat.reduceAdd, h2, h13]
                · intro f W hI hd K hK
                  simp only [frameOf, Act.put, List.setIfInBounds_toArray, List.set_cons_zero, List.set_cons_succ]
                  have h14 : f 14 = .bool false := hd 14 (by kernel_rfl)
                  rw [h14]
                  go_simp
                  refine hK.out (.bool false) _ W ?_ hI (Below.refl _ _) rfl
                  simp only [frameOf, Act.put, List.setIfInBounds_toArray, List.set_cons_zero, List.set_cons_succ, Nat.zero_add, Nat.reduceAdd, h14]
                · intro f W hI hd K hK
                  simp only [frameOf, Act.put, List.setIfInBounds_toArray, List.set_cons_zero, List.set_cons_succ]
                  have h15 : f 15 = .bool false := hd 15 (by kernel_rfl)
                  rw [h15]
                  go_simp
                  refine hK.out (.slice (some ⟨R, 0, none⟩) N N) _ W ?_ hI (Below.refl _ _) rfl
                  simp only [frameOf, Act.put, List.setIfInBounds_toArray, List.set_cons_zero, List.set_cons_succ, Nat.zero_add, Nat.reduceAdd, h15]
                · intro f W hI hd K hK
                  simp only [frameOf, Act.put, List.setIfInBounds_toArray, List.set_cons_zero, List.set_cons_succ]
                  have h15 : f 15 = .bool false := hd 15 (by kernel_rfl)
                  rw [h15]
                  go_simp
                  refine hK.out (.slice (some ⟨R, 0, none⟩) N N) _ W ?_ hI (Below.refl _ _) rfl
                  simp only [frameOf, Act.put, List.setIfInBounds_toArray, List.set_cons_zero, List.set_cons_succ, Nat.zero_add, Nat.reduceAdd, h15]
                · intro f W hI hd K hK
                  simp only [frameOf, Act.put, List.setIfInBounds_toArray, List.set_cons_zero, List.set_cons_succ]
                  have h15 : f 15 = .bool false := hd 15 (by kernel_rfl)
                  rw [h15]
                  go_simp
                  refine hK.out (.int .i64 j) _ W ?_ hI (Below.refl _ _) rfl
                  simp only [frameOf, Act.put, List.setIfInBounds_toArray, List.set_cons_zero, List.set_cons_succ, Nat.zero_add, Nat.reduceAdd, h15]
                · intro f W hI hd K hK
                  simp only [frameOf, Act.put, List.setIfInBounds_toArray, List.set_cons_zero, List.set_cons_succ]
                  have h15 : f 15 = .bool false := hd 15 (by kernel_rfl)
                  have h17 : f 17 = .slice (some ⟨R, 0, none⟩) N N := hd 17 (by kernel_rfl)
                  have h18 : f 18 = .int .i64 j := hd 18 (by kernel_rfl)
                  rw [h15, h17, h18]
                  go_simp
                  refine hK.out (.pointer (some ⟨R, j * 4, none⟩)) _ W ?_ hI (Below.refl _ _) rfl
                  simp only [frameOf, Act.put, List.setIfInBounds_toArray, List.set_cons_zero, List.set_cons_succ, Nat.zero_add, Nat.reduceAdd, h15, h17, h18]
                · intro f W hI hd K hK
                  simp only [frameOf, Act.put, List.setIfInBounds_toArray, List.set_cons_zero, List.set_cons_succ]
                  have h15 : f 15 = .bool false := hd 15 (by kernel_rfl)
                  have h19 : f 19 = .pointer (some ⟨R, j * 4, none⟩) := hd 19 (by kernel_rfl)
                  have hr := hI.2.row j Q1.out
                  rw [K1.out] at hr
                  obtain ⟨g0, g1, g2, g3, -⟩ := hr
                  simp only at g0 g1 g2 g3
                  rw [h15, h19]
                  go_simp
                  refine hK.out (tv k1 s1 n1 p1 u1.len c1) _ W ?_ hI (Below.refl _ _) rfl
                  simp only [tv, frameOf, Act.put, List.setIfInBounds_toArray, List.set_cons_zero, List.set_cons_succ, Nat.zero_add, Nat.reduceAdd, h15, h19]
                · intro f W hI hd K hK
                  simp only [frameOf, Act.put, List.setIfInBounds_toArray, List.set_cons_zero, List.set_cons_succ]
                  have h15 : f 15 = .bool false := hd 15 (by kernel_rfl)
                  have h16 : f 16 = .slice (some ⟨R, 0, none⟩) N N := hd 16 (by kernel_rfl)
                  have h20 : f 20 = tv k1 s1 n1 p1 u1.len c1 := hd 20 (by kernel_rfl)
                  unfold tv at h20
                  rw [h15, h16, h20]
                  go_simp
                  refine (CN1.out W hI.2).mono ?_
                  rintro e w' ⟨rfl, hB⟩
                  refine hK.out (.int .i64 cn) _ _ ?_ ⟨hI.1.trans (hB.mono hI.1.size), hI.2.below hB⟩ hB rfl
                  simp only [frameOf, Act.put, List.setIfInBounds_toArray, List.set_cons_zero, List.set_cons_succ, Nat.zero_add, Nat.reduceAdd, h15, h16, h20]
                · intro f W hI hd K hK
                  simp only [frameOf, Act.put, List.setIfInBounds_toArray, List.set_cons_zero, List.set_cons_succ]
                  have h15 : f 15 = .bool false := hd 15 (by kernel_rfl)
                  rw [h15]
                  go_simp
                  refine hK.out (.slice (some ⟨b, o, none⟩) N c) _ W ?_ hI (Below.refl _ _) rfl
                  simp only [frameOf, Act.put, List.setIfInBounds_toArray, List.set_cons_zero, List.set_cons_succ, Nat.zero_add, Nat.reduceAdd, h15]
                · intro f W hI hd K hK
                  simp only [frameOf, Act.put, List.setIfInBounds_toArray, List.set_cons_zero, List.set_cons_succ]
                  have h15 : f 15 = .bool false := hd 15 (by kernel_rfl)
                  rw [h15]
                  go_simp
                  refine hK.out (.slice (some ⟨R, 0, none⟩) N N) _ W ?_ hI (Below.refl _ _) rfl
                  simp only [frameOf, Act.put, List.setIfInBounds_toArray, List.set_cons_zero, List.set_cons_succ, Nat.zero_add, Nat.reduceAdd, h15]
                · intro f W hI hd K hK
                  simp only [frameOf, Act.put, List.setIfInBounds_toArray, List.set_cons_zero, List.set_cons_succ]
                  have h15 : f 15 = .bool false := hd 15 (by kernel_rfl)
                  rw [h15]
                  go_simp
                  refine hK.out (.int .i64 j) _ W ?_ hI (Below.refl _ _) rfl
                  simp only [frameOf, Act.put, List.setIfInBounds_toArray, List.set_cons_zero, List.set_cons_succ, Nat.zero_add, Nat.reduceAdd, h15]
                · intro f W hI hd K hK
                  simp only [frameOf, Act.put, List.setIfInBounds_toArray, List.set_cons_zero, List.set_cons_succ]
                  have h15 : f 15 = .bool false := hd 15 (by kernel_rfl)
                  have h23 : f 23 = .slice (some ⟨R, 0, none⟩) N N := hd 23 (by kernel_rfl)
                  have h24 : f 24 = .int .i64 j := hd 24 (by kernel_rfl)
                  rw [h15, h23, h24]
                  go_simp
                  refine hK.out (.pointer (some ⟨R, j * 4, none⟩)) _ W ?_ hI (Below.refl _ _) rfl
                  simp only [frameOf, Act.put, List.setIfInBounds_toArray, List.set_cons_zero, List.set_cons_succ, Nat.zero_add, Nat.reduceAdd, h15, h23, h24]
                · intro f W hI hd K hK
                  simp only [frameOf, Act.put, List.setIfInBounds_toArray, List.set_cons_zero, List.set_cons_succ]
                  have h15 : f 15 = .bool false := hd 15 (by kernel_rfl)
                  have h25 : f 25 = .pointer (some ⟨R, j * 4, none⟩) := hd 25 (by kernel_rfl)
                  have hr := hI.2.row j Q1.out
                  rw [K1.out] at hr
                  obtain ⟨g0, g1, g2, g3, -⟩ := hr
                  simp only at g0 g1 g2 g3
                  rw [h15, h25]
                  go_simp
                  refine hK.out (tv k1 s1 n1 p1 u1.len c1) _ W ?_ hI (Below.refl _ _) rfl
                  simp only [tv, frameOf, Act.put, List.setIfInBounds_toArray, List.set_cons_zero, List.set_cons_succ, Nat.zero_add, Nat.reduceAdd, h15, h25]
                · intro f W hI hd K hK
                  simp only [frameOf, Act.put, List.setIfInBounds_toArray, List.set_cons_zero, List.set_cons_succ]
                  have h15 : f 15 = .bool false := hd 15 (by kernel_rfl)
                  have h22 : f 22 = .slice (some ⟨b, o, none⟩) N c := hd 22 (by kernel_rfl)
                  have h26 : f 26 = tv k1 s1 n1 p1 u1.len c1 := hd 26 (by kernel_rfl)
                  unfold tv at h26
                  rw [h15, h22, h26]
                  go_simp
                  refine (CN2.out W hI.1 hI.2).mono ?_
                  rintro e w' ⟨rfl, hB⟩
                  refine hK.out (.int .i64 cn) _ _ ?_ ⟨hI.1.trans (hB.mono hI.1.size), hI.2.below hB⟩ hB rfl
                  simp only [frameOf, Act.put, List.setIfInBounds_toArray, List.set_cons_zero, List.set_cons_succ, Nat.zero_add, Nat.reduceAdd, h15, h22, h26]
                · intro f W hI hd K hK
                  simp only [frameOf, Act.put, List.setIfInBounds_toArray, List.set_cons_zero, List.set_cons_succ]
                  have h15 : f 15 = .bool false := hd 15 (by kernel_rfl)
                  have h21 : f 21 = .int .i64 cn := hd 21 (by kernel_rfl)
                  have h27 : f 27 = .int .i64 cn := hd 27 (by kernel_rfl)
                  rw [h15, h21, h27]
                  go_simp
                  refine hK.out (.bool false) _ W ?_ hI (Below.refl _ _) rfl
                  simp only [frameOf, Act.put, List.setIfInBounds_toArray, List.set_cons_zero, List.set_cons_succ, Nat.zero_add, Nat.reduceAdd, h15, h21, h27]
                · intro f W hI hd K hK
                  simp only [frameOf, Act.put, List.setIfInBounds_toArray, List.set_cons_zero, List.set_cons_succ]
                  have h15 : f 15 = .bool false := hd 15 (by kernel_rfl)
                  have h28 : f 28 = .bool false := hd 28 (by kernel_rfl)
                  rw [h15, h28]
                  go_simp
                  refine hK.out (.bool false) _ W ?_ hI (Below.refl _ _) rfl
                  simp only [frameOf, Act.put, List.setIfInBounds_toArray, List.set_cons_zero, List.set_cons_succ, Nat.zero_add, Nat.reduceAdd, h15, h28]
              case done =>
                intro f W hI hF
                have hlast : f 29 = .bool false := hF 29 (by decide)
                simp only [frameOf, Act.put, List.setIfInBounds_toArray, List.set_cons_zero, List.set_cons_succ]
                rw [hlast]
                clear hF hlast
                obtain ⟨hBW, -⟩ := hI
                replace BR := Lib.hid hBW
                clear hBW
                go_wp2
                go_roundw
                case rel => exact ⟨j + 1, by omega, by go_num, BR⟩
                case measure => simp [intOf]; omega
          · replace BB := Lib.hid (BB.out.trans (BR.out.mono BB.out.size))
            go_wp2_with fail
            refine (wakes2_any _).mono ?_
            rintro e w9 ⟨rfl, hB⟩
            replace BB := Lib.hid (BB.out.trans (hB.mono BB.out.size))
            go_wp2
            go_ret
            exact ⟨rfl, BB.out⟩

end Go.Proofs.Ytlhclblekpngnaa
