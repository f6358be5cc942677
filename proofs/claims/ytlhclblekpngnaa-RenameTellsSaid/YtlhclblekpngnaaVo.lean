/-
  The law RenameShifts, walked.
-/
import Derived.Test.YtlhclblekpngnaaVo0
import Derived.Test.YtlhclblekpngnaaUa
namespace Go.Proofs.Ytlhclblekpngnaa
open Go.RowKit

theorem ListOf.oneAt {k : Int} {s : ByteArray} {n : Int} {p : Option Addr} {c : Nat} {t : Ts} {w : World} (h : Ts.At w p t) (ty : TypeId) :
    Ts.At (w.alloc (.cells #[.int .u8 k, .string s, .int .i64 n, .slice p t.len c] ty)) (some ⟨w.heap.size, 0, none⟩) (.cons k s n p c t .nil) := by
  obtain ⟨W, hW, _, hB, hc⟩ := box1 w #[.int .u8 k, .string s, .int .i64 n, .slice p t.len c] ty
  rw [← hW]
  exact lies_one rfl hc (h.below hB)

/-- what Shift hands back -/
def ShOf (m k : Int) (s : ByteArray) (n : Int) (ts : Ts) (v : Value) (w : World) : Prop := ∃ us q d, v = tv k s (shN m k n) q us.len d ∧ Ts.At w q us ∧ Ts.twin us (renT (stepS m) ts ()).1 ∧ Ts.ok (.cons k s (shN m k n) q d us .nil)

theorem ShOf.below {m k : Int} {s : ByteArray} {n : Int} {ts : Ts} {v : Value} {w w' : World} (h : ShOf m k s n ts v w) (hB : Below w.heap.size w w') : ShOf m k s n ts v w' := by
  obtain ⟨us, q, d, h1, h2, h3⟩ := h
  exact ⟨us, q, d, h1, h2.below hB, h3⟩

theorem shift_of (ts : Ts) (m : Int) (hbig : ts.size ≤ 800000) (k : Int) (s : ByteArray) (n : Int) (w : World) (p : Option Addr) (c : Nat) (hok : Ts.ok (.cons k s n p c ts .nil)) (hat : Ts.At w p ts) :
    Calls Try.prog 52 #[.agg #[.int .u8 k, .string s, .int .i64 n, .slice p ts.len c], .int .i64 m] w fun e w' => ∃ v, e = .returned v ∧ ShOf m k s n ts v w' ∧ Below w.heap.size w w' :=
  (shift_any ts m hbig k s n w p c hok hat).mono fun e w' ⟨us, q, d, h1, h2, h3, h4, h5⟩ => ⟨_, h1, ⟨us, q, d, rfl, h2.at, h3, h4⟩, h5⟩

set_option maxRecDepth 100000 in
set_option maxHeartbeats 20000000 in
theorem renameShifts_true (w : World) (k : Int) (s : ByteArray) (n : Int) (p : Option Addr) (c : Nat) (ts : Ts) (a b : Int)
    (hok : Ts.ok (.cons k s n p c ts .nil)) (hat : Ts.At w p ts) (ha : -9223372036854775808 ≤ a ∧ a ≤ 9223372036854775807) (hb : -9223372036854775808 ≤ b ∧ b ≤ 9223372036854775807) :
    Calls Try.prog 13 #[tv k s n p ts.len c, .int .i64 a, .int .i64 b] w fun e w' => e = .returned (.bool true) ∧ Below w.heap.size w w' := by
  unfold tv
  have OK := Lib.hid hok
  have AT := Lib.hid hat
  have hs := hok.2.1
  clear hok hat
  go_enter Try.func13, Try.ntmps13
  go_wp2_with fail
  obtain ⟨W0, hW0, hs0, hA0, hTa⟩ := box1 w #[Value.int IntKind.u8 k, Value.string s, Value.int IntKind.i64 n, Value.slice p ts.len c] 24
  rw [← hW0]
  have Z0 := Lib.hid hW0
  clear hW0
  have TA : TT w w.heap.size k s n p c ts W0 := ⟨hA0, by omega, hTa 0 _ rfl, hTa 1 _ rfl, hTa 2 _ rfl, hTa 3 _ rfl, AT.out.below hA0⟩
  obtain ⟨W1, hW1, hs1, hA1, hc1⟩ := box1 W0 #[Value.int IntKind.u8 k, Value.string s, Value.int IntKind.i64 n, Value.slice p ts.len c] 24
  rw [← hW1]
  have Z1 := Lib.hid hW1
  clear hW1 hTa hA0
  replace TA := TA.below hA1
  rw [← hs0]
  have L1 := Lib.hid (lies_one rfl hc1 TA.tat)
  by_cases hg : decide (1000 < manyP (.cons k s n p c ts .nil) 0) = true
  · refine (great_is (.cons k s n p c ts .nil) OK.out true hg W1 _ 1 L1.out (by simp [Ts.len])).mono ?_
    rintro e w2 ⟨rfl, hB⟩
    replace TA := TA.below hB
    clear hg hB hc1 hA1
    go_wp2_with fail
    refine (wakes5_any _).mono ?_
    rintro e w3 ⟨rfl, hB⟩
    replace TA := TA.below hB
    go_wp2
    go_ret
    exact ⟨rfl, TA.B⟩
  rw [Bool.not_eq_true] at hg
  have hsz0 := small_of_many hg
  have hsz : ts.size ≤ 999 := by simp only [Ts.size] at hsz0; omega
  refine (great_is (.cons k s n p c ts .nil) OK.out false hg W1 _ 1 L1.out (by simp [Ts.len])).mono ?_
  rintro e w2 ⟨rfl, hB⟩
  replace TA := TA.below hB
  clear hg hB hc1 hA1 L1 hsz0
  have OKK : Hid ts.ok := Lib.hid OK.out.2.2.2.2.2.1
  have k0 := TA.c0
  have k1 := TA.c1
  have k2 := TA.c2
  have k3 := TA.c3
  go_wp2_with fail
  refine (rGood_any ts (by omega) OKK.out k s n w2 p c hs TA.tat).mono ?_
  rintro e w3 ⟨rfl, hB⟩
  replace TA := TA.below hB
  clear hB k0 k1 k2 k3
  by_cases hgd : goodB 64 k s n ts = false
  · rw [hgd]
    clear hgd
    go_wp2_with fail
    refine (wakes5_any _).mono ?_
    rintro e w4 ⟨rfl, hB⟩
    replace TA := TA.below hB
    go_wp2
    go_ret
    exact ⟨rfl, TA.B⟩
  rw [Bool.not_eq_false] at hgd
  have GD := Lib.hid hgd
  rw [hgd]
  clear hgd
  by_cases ha0 : a < 0
  · go_wp2_with fail
    refine (wakes5_any _).mono ?_
    rintro e w4 ⟨rfl, hB⟩
    replace TA := TA.below hB
    go_wp2
    go_ret
    exact ⟨rfl, TA.B⟩
  by_cases hb0 : b < 0
  · go_wp2_with fail
    refine (wakes5_any _).mono ?_
    rintro e w4 ⟨rfl, hB⟩
    replace TA := TA.below hB
    go_wp2
    go_ret
    exact ⟨rfl, TA.B⟩
  by_cases ha1 : 1099511627776 < a
  · go_wp2_with fail
    refine (wakes5_any _).mono ?_
    rintro e w4 ⟨rfl, hB⟩
    replace TA := TA.below hB
    go_wp2
    go_ret
    exact ⟨rfl, TA.B⟩
  by_cases hb1 : 1099511627776 < b
  · go_wp2_with fail
    refine (wakes5_any _).mono ?_
    rintro e w4 ⟨rfl, hB⟩
    replace TA := TA.below hB
    go_wp2
    go_ret
    exact ⟨rfl, TA.B⟩
  have k0 := TA.c0
  have k1 := TA.c1
  have k2 := TA.c2
  have k3 := TA.c3
  go_wp2_with fail
  have hl1 : ListOf (.cons k s n p c ts .nil) (.slice (some ⟨w3.heap.size, 0, none⟩) 1 1) (w3.alloc (.cells #[.int .u8 k, .string s, .int .i64 n, .slice p ts.len c] 24)) := ListOf.one TA.tat _
  refine (vars_of (by simp [Ts.size]; omega) OK.out hl1).mono ?_
  rintro e w4 ⟨u, rfl, hu, hB⟩
  obtain ⟨zs, hzs⟩ : ∃ zs, zs = numsOf ((nodesOf (.cons k s n p c ts .nil)).map Ts.mark) := ⟨_, rfl⟩
  rw [← hzs] at hu
  obtain ⟨pz, cz, rfl, hiz, hcz, hcz'⟩ := hu
  replace TA := (TA.alloc _).below hB
  have ZS := Lib.hid hzs
  have hnz : zs.length ≤ 1000 := by
    rw [hzs]
    have h1 := numsOf_length ((nodesOf (.cons k s n p c ts .nil)).map Ts.mark)
    rw [List.length_map, nodesOf_length] at h1
    simp only [Ts.size] at h1
    omega
  obtain ⟨bz, oz, hpz, hcell⟩ := hiz
  have CZ := Lib.hid hcell
  have PZ := Lib.hid hpz
  clear hl1 hB hzs hcell hpz k0 k1 k2 k3
  go_wp2_with fail
  go_loop [8] (fun i => ∃ (j : Nat), j ≤ zs.length ∧ i = .int .i64 j ∧ Hid (∀ z ∈ zs.take j, z ≤ 1099511627776)) (fun i => zs.length - (intOf i).toNat)
  case atStart => exact ⟨0, Nat.zero_le _, rfl, Lib.hid (by simp)⟩
  case round =>
    obtain ⟨j, hj, rfl, RZ⟩ := hrel
    by_cases hjl : j < zs.length
    · have hpz' := some_of_ints PZ.out hjl
      obtain ⟨z, hz⟩ : ∃ z, z = zs[j] := ⟨_, rfl⟩
      have hc : w4.cell? ⟨bz, oz + j, none⟩ = some (.int .i64 z) := by rw [hz]; exact CZ.out j hjl
      have HZ := Lib.hid hz
      clear hz
      subst hpz'
      by_cases hzb : 1099511627776 < z
      · go_wp2_with fail
        refine (wakes5_any _).mono ?_
        rintro e w5 ⟨rfl, hB⟩
        replace TA := TA.below hB
        go_wp2
        go_ret
        exact ⟨rfl, TA.B⟩
      · go_wp2
        go_round
        case rel =>
          refine ⟨j + 1, by omega, by go_num, Lib.hid ?_⟩
          intro x hx
          rw [List.take_succ_eq_append_getElem hjl] at hx
          rcases List.mem_append.1 hx with hx | hx
          · exact RZ.out x hx
          · have h1 : x = z := by rw [HZ.out]; simpa using hx
            omega
        case measure => simp [intOf]; omega
    · have hall : ∀ z ∈ zs, z ≤ 1099511627776 := fun z hz => RZ.out z (by rw [List.take_of_length_le (by omega)]; exact hz)
      have hM : numsIn 1099511627776 (.cons k s n p c ts .nil) := by
        refine good_in ?_ fun x hx hk => hall _ ?_
        · have h1 := GD.out
          simp only [goodB, Bool.and_eq_true] at h1
          simp only [shapeL, Bool.and_eq_true, Bool.and_true]
          exact h1.2
        · rw [ZS.out, numsOf_mem]; exact ⟨x, hx, hk, rfl⟩
      have MM := Lib.hid hM
      have hab : wrap64 (a + b) = a + b := wrap64_in (by omega)
      have ha' : 0 ≤ a ∧ a ≤ 1099511627776 := by omega
      have hb' : 0 ≤ b ∧ b ≤ 1099511627776 := by omega
      have k0 := TA.c0
      have k1 := TA.c1
      have k2 := TA.c2
      have k3 := TA.c3
      clear hall hM
      go_wp2_with fail
      refine (shift_any ts a (by omega) k s n w4 p c OK.out TA.tat).mono ?_
      rintro e w5 ⟨usx, qx, dx, rfl, hatx, htwx, hokx, hB⟩
      unfold tv
      replace TA := TA.below hB
      have OKX := Lib.hid hokx
      have TWX := Lib.hid htwx
      have ATX := Lib.hid hatx.at
      clear k0 k1 k2 k3 hB hatx htwx hokx
      have k0 := TA.c0
      have k1 := TA.c1
      have k2 := TA.c2
      have k3 := TA.c3
      have okx2 := OKX.out.2.2.1
      have g0 := fun (o : Obj) => cell_alloc_old o k0
      have g1 := fun (o : Obj) => cell_alloc_old o k1
      have g2 := fun (o : Obj) => cell_alloc_old o k2
      have g3 := fun (o : Obj) => cell_alloc_old o k3
      go_wp2_with fail
      obtain ⟨W6, hW6, hs6, hA6, hTx, hc6⟩ := box2 w5 #[Value.int IntKind.u8 k, Value.string s, Value.int IntKind.i64 (shN a k n), Value.slice qx usx.len dx] #[Value.int IntKind.u8 k, Value.string s, Value.int IntKind.i64 n, Value.slice p ts.len c] 24 24
      rw [← hW6]
      have Z6 := Lib.hid hW6
      clear hW6 k0 k1 k2 k3 g0 g1 g2 g3
      replace TA := TA.below hA6
      have hTAB := TA.B
      have L6 := lies_one rfl hc6 TA.tat
      refine (canon_any (.cons k s n p c ts .nil) (by simp [Ts.size]; omega) OK.out W6 _ 1 L6).mono ?_
      rintro e w7 ⟨usc, qc, rfl, hatc, htwc, hokc, -, hB⟩
      obtain ⟨nc, hnc, pc, cc, uc, rfl, htwu⟩ : ∃ nc, (if (k == 1) = true then stepC [] n else (n, [])).1 = nc ∧ ∃ pc cc uc, usc = .cons k s nc pc cc uc .nil ∧ True := by
        have h1 := htwc
        simp only [renT] at h1
        obtain ⟨q, d, u, h2, -⟩ := twin_one h1
        exact ⟨_, rfl, q, d, u, h2, trivial⟩
      obtain ⟨bc, oc, rfl, hel⟩ := one_el hatc.at
      have TX : TT w w5.heap.size k s (shN a k n) qx dx usx W6 := ⟨hTAB, by rw [hs6]; omega, hTx 0 _ rfl, hTx 1 _ rfl, hTx 2 _ rfl, hTx 3 _ rfl, ATX.out.below hA6⟩
      replace TA := TA.below hB
      replace TX := TX.below hB
      have hsx : usx.size = ts.size := by rw [Ts.twin_size _ _ TWX.out, renT_size]
      have OKC := Lib.hid hokc
      have hsc : Ts.size (.cons k s nc pc cc uc .nil) = Ts.size (.cons k s n p c ts .nil) := by rw [Ts.twin_size _ _ htwc, renT_size]
      have hsc' : Ts.size (.cons k s nc pc cc uc .nil) ≤ 1000 := by rw [hsc]; simp only [Ts.size]; omega
      have FITC : Hid (numsFit (.cons k s nc pc cc uc .nil)) := Lib.hid ((numsFit_twin htwc).2 (numsIn_fit (by decide) (canon_in _ _ (by simp only [List.length_nil, Ts.size]; omega))))
      have CNC : Hid (((cntL (.cons k s nc pc cc uc .nil) : Nat) : Int) = (zs.length : Int)) := Lib.hid (by rw [shs_canon htwc, ← ZS.out])
      have FITT : Hid (numsFit (.cons k s n p c ts .nil)) := Lib.hid (numsIn_fit (by decide) MM.out)
      have FITX : Hid (numsFit (.cons k s (shN a k n) qx dx usx .nil)) := Lib.hid ((numsFit_twin (shs_x TWX.out)).2 (numsIn_fit (M := 1099511627776 + a) (by omega) (shift_in (by decide) a ha' MM.out)))
      have CNX : Hid ((zs.length = 0 → cntL (.cons k s (shN a k n) qx dx usx .nil) = 0) ∧ (zs.length ≠ 0 → cntL (.cons k s (shN a k n) qx dx usx .nil) = cntL (.cons k s n p c ts .nil) + a.toNat)) := Lib.hid (by rw [ZS.out]; exact shs_count (by decide) ha' MM.out (shs_x TWX.out))
      clear hc6 hTx hA6 L6 hatc htwc hokc hB hTAB hnc htwu Z6 hsc
      simp only [Ts.len, Nat.zero_add]
      go_wp2_with fail
      obtain ⟨bx, hbx⟩ : ∃ bx, bx = w5.heap.size := ⟨_, rfl⟩
      rw [← hbx] at TX ⊢
      clear hbx
      refine region_by_facts (fun W => TT w w.heap.size k s n p c ts W ∧ TT w bx k s (shN a k n) qx dx usx W ∧ El bc oc k s nc pc cc uc W)
        [fun v _ => v = .slice (some ⟨bc, oc, none⟩) 1 1, fun v _ => v = .int .i64 1, fun v _ => v = .bool false, fun v _ => v = .bool false, fun v _ => v = tv k s (shN a k n) qx usx.len dx, fun v _ => v = .int .i64 b, ShOf b k s (shN a k n) usx, fun v _ => v = tv k s n p ts.len c, fun v _ => v = .int .i64 a, fun v _ => v = .int .i64 b, fun v _ => v = .int .i64 (a + b), ShOf (a + b) k s n ts, fun v _ => v = .bool true, fun v _ => v = .bool false, fun v _ => v = .bool false, fun v _ => v = .bool false, fun v _ => v = .slice (some ⟨bc, oc, none⟩) 1 1, fun v _ => v = .pointer (some ⟨bc, oc, none⟩), fun v _ => v = tv k s nc pc uc.len cc, ListOf (.cons k s nc pc cc uc .nil), fun v _ => v = .int .i64 zs.length, fun v _ => v = .slice pz zs.length cz, fun v _ => v = .int .i64 zs.length, fun v _ => v = .bool false, fun v _ => v = .bool false]
        ⟨.eq _, .eq _, .eq _, .eq _, .eq _, .eq _, fun _ _ _ h => h.below, .eq _, .eq _, .eq _, .eq _, fun _ _ _ h => h.below, .eq _, .eq _, .eq _, .eq _, .eq _, .eq _, .eq _, fun _ _ _ h => h.below, .eq _, .eq _, .eq _, .eq _, .eq _, trivial⟩
        (by kernel_rfl) (by kernel_rfl) (by kernel_rfl) ?h0 ?steps ?done
      case h0 => exact ⟨TA.drewN 1, TX.drewN 1, hel.below (below_drewN (Below.refl _ _) 1)⟩
      case steps =>
        refine ⟨?_, ?_, ?_, ?_, ?_, ?_, ?_, ?_, ?_, ?_, ?_, ?_, ?_, ?_, ?_, ?_, ?_, ?_, ?_, ?_, ?_, ?_, ?_, ?_, ?_, trivial⟩
        · intro f W hI hd K hK
          simp only [frameOf, Act.put, List.setIfInBounds_toArray, List.set_cons_zero, List.set_cons_succ]
          go_simp
          refine hK.out (.slice (some ⟨bc, oc, none⟩) 1 1) _ W ?_ hI (Below.refl _ _) rfl
          simp only [frameOf, Act.put, List.setIfInBounds_toArray, List.set_cons_zero, List.set_cons_succ]
        · intro f W hI hd K hK
          simp only [frameOf, Act.put, List.setIfInBounds_toArray, List.set_cons_zero, List.set_cons_succ]
          have h0 : f 0 = .slice (some ⟨bc, oc, none⟩) 1 1 := hd 0 (by kernel_rfl)
          rw [h0]
          go_simp
          refine hK.out (.int .i64 1) _ W ?_ hI (Below.refl _ _) rfl
          simp only [frameOf, Act.put, List.setIfInBounds_toArray, List.set_cons_zero, List.set_cons_succ, Nat.zero_add, Nat.reduceAdd, h0]
        · intro f W hI hd K hK
          simp only [frameOf, Act.put, List.setIfInBounds_toArray, List.set_cons_zero, List.set_cons_succ]
          have h1 : f 1 = .int .i64 1 := hd 1 (by kernel_rfl)
          rw [h1]
          go_simp
          refine hK.out (.bool false) _ W ?_ hI (Below.refl _ _) rfl
          simp only [frameOf, Act.put, List.setIfInBounds_toArray, List.set_cons_zero, List.set_cons_succ, Nat.zero_add, Nat.reduceAdd, h1]
        · intro f W hI hd K hK
          simp only [frameOf, Act.put, List.setIfInBounds_toArray, List.set_cons_zero, List.set_cons_succ]
          have h2 : f 2 = .bool false := hd 2 (by kernel_rfl)
          rw [h2]
          go_simp
          refine hK.out (.bool false) _ W ?_ hI (Below.refl _ _) rfl
          simp only [frameOf, Act.put, List.setIfInBounds_toArray, List.set_cons_zero, List.set_cons_succ, Nat.zero_add, Nat.reduceAdd, h2]
        · intro f W hI hd K hK
          simp only [frameOf, Act.put, List.setIfInBounds_toArray, List.set_cons_zero, List.set_cons_succ]
          have h3 : f 3 = .bool false := hd 3 (by kernel_rfl)
          have k0 := hI.2.1.c0
          have k1 := hI.2.1.c1
          have k2 := hI.2.1.c2
          have k3 := hI.2.1.c3
          rw [h3]
          go_simp
          refine hK.out (tv k s (shN a k n) qx usx.len dx) _ W ?_ hI (Below.refl _ _) rfl
          simp only [tv, frameOf, Act.put, List.setIfInBounds_toArray, List.set_cons_zero, List.set_cons_succ, Nat.zero_add, Nat.reduceAdd, h3]
        · intro f W hI hd K hK
          simp only [frameOf, Act.put, List.setIfInBounds_toArray, List.set_cons_zero, List.set_cons_succ]
          have h3 : f 3 = .bool false := hd 3 (by kernel_rfl)
          rw [h3]
          go_simp
          refine hK.out (.int .i64 b) _ W ?_ hI (Below.refl _ _) rfl
          simp only [frameOf, Act.put, List.setIfInBounds_toArray, List.set_cons_zero, List.set_cons_succ, Nat.zero_add, Nat.reduceAdd, h3]
        · intro f W hI hd K hK
          simp only [frameOf, Act.put, List.setIfInBounds_toArray, List.set_cons_zero, List.set_cons_succ]
          have h3 : f 3 = .bool false := hd 3 (by kernel_rfl)
          have h4 : f 4 = tv k s (shN a k n) qx usx.len dx := hd 4 (by kernel_rfl)
          unfold tv at h4
          have h5 : f 5 = .int .i64 b := hd 5 (by kernel_rfl)
          rw [h3, h4, h5]
          go_simp
          refine (shift_of usx b (by omega) k s (shN a k n) W qx dx OKX.out hI.2.1.tat).mono ?_
          rintro e w' ⟨v, rfl, hv, hB⟩
          refine hK.out v _ _ ?_ ⟨hI.1.below hB, hI.2.1.below hB, hI.2.2.below hB⟩ hB hv
          simp only [frameOf, Act.put, List.setIfInBounds_toArray, List.set_cons_zero, List.set_cons_succ, Nat.zero_add, Nat.reduceAdd, h3, h4, h5]
        · intro f W hI hd K hK
          simp only [frameOf, Act.put, List.setIfInBounds_toArray, List.set_cons_zero, List.set_cons_succ]
          have h3 : f 3 = .bool false := hd 3 (by kernel_rfl)
          have k0 := hI.1.c0
          have k1 := hI.1.c1
          have k2 := hI.1.c2
          have k3 := hI.1.c3
          rw [h3]
          go_simp
          refine hK.out (tv k s n p ts.len c) _ W ?_ hI (Below.refl _ _) rfl
          simp only [tv, frameOf, Act.put, List.setIfInBounds_toArray, List.set_cons_zero, List.set_cons_succ, Nat.zero_add, Nat.reduceAdd, h3]
        · intro f W hI hd K hK
          simp only [frameOf, Act.put, List.setIfInBounds_toArray, List.set_cons_zero, List.set_cons_succ]
          have h3 : f 3 = .bool false := hd 3 (by kernel_rfl)
          rw [h3]
          go_simp
          refine hK.out (.int .i64 a) _ W ?_ hI (Below.refl _ _) rfl
          simp only [frameOf, Act.put, List.setIfInBounds_toArray, List.set_cons_zero, List.set_cons_succ, Nat.zero_add, Nat.reduceAdd, h3]
        · intro f W hI hd K hK
          simp only [frameOf, Act.put, List.setIfInBounds_toArray, List.set_cons_zero, List.set_cons_succ]
          have h3 : f 3 = .bool false := hd 3 (by kernel_rfl)
          rw [h3]
          go_simp
          refine hK.out (.int .i64 b) _ W ?_ hI (Below.refl _ _) rfl
          simp only [frameOf, Act.put, List.setIfInBounds_toArray, List.set_cons_zero, List.set_cons_succ, Nat.zero_add, Nat.reduceAdd, h3]
        · intro f W hI hd K hK
          simp only [frameOf, Act.put, List.setIfInBounds_toArray, List.set_cons_zero, List.set_cons_succ]
          have h3 : f 3 = .bool false := hd 3 (by kernel_rfl)
          have h8 : f 8 = .int .i64 a := hd 8 (by kernel_rfl)
          have h9 : f 9 = .int .i64 b := hd 9 (by kernel_rfl)
          rw [h3, h8, h9]
          go_simp
          have hab2 : IntKind.i64.wrap (a + b) = a + b := (wrap_i64 _).trans hab
          refine hK.out (.int .i64 (a + b)) _ W ?_ hI (Below.refl _ _) rfl
          simp only [frameOf, Act.put, List.setIfInBounds_toArray, List.set_cons_zero, List.set_cons_succ, Nat.zero_add, Nat.reduceAdd, h3, h8, h9, hab2]
        · intro f W hI hd K hK
          simp only [frameOf, Act.put, List.setIfInBounds_toArray, List.set_cons_zero, List.set_cons_succ]
          have h3 : f 3 = .bool false := hd 3 (by kernel_rfl)
          have h7 : f 7 = tv k s n p ts.len c := hd 7 (by kernel_rfl)
          unfold tv at h7
          have h10 : f 10 = .int .i64 (a + b) := hd 10 (by kernel_rfl)
          rw [h3, h7, h10]
          go_simp
          refine (shift_of ts (a + b) (by omega) k s n W p c OK.out hI.1.tat).mono ?_
          rintro e w' ⟨v, rfl, hv, hB⟩
          refine hK.out v _ _ ?_ ⟨hI.1.below hB, hI.2.1.below hB, hI.2.2.below hB⟩ hB hv
          simp only [frameOf, Act.put, List.setIfInBounds_toArray, List.set_cons_zero, List.set_cons_succ, Nat.zero_add, Nat.reduceAdd, h3, h7, h10]
        · intro f W hI hd K hK
          simp only [frameOf, Act.put, List.setIfInBounds_toArray, List.set_cons_zero, List.set_cons_succ]
          have h3 : f 3 = .bool false := hd 3 (by kernel_rfl)
          obtain ⟨u6, q6, d6, e6, a6, t6, o6⟩ : ShOf b k s (shN a k n) usx (f 6) W := hd 6 (by kernel_rfl)
          unfold tv at e6
          obtain ⟨u11, q11, d11, e11, a11, t11, o11⟩ : ShOf (a + b) k s n ts (f 11) W := hd 11 (by kernel_rfl)
          unfold tv at e11
          rw [h3, e6, e11]
          go_simp
          have hts := Ts.len_size ts
          have htx := Ts.len_size usx
          have hlu := Ts.twin_len _ _ t6
          have hlv := Ts.twin_len _ _ t11
          rw [renT_len] at hlu hlv
          have hal := shs_alike (by decide) ha' hb' MM.out TWX.out t6 t11
          clear t6 t11
          have hle6 : u6.len ≤ 9223372036854775807 := by omega
          have hle11 : u11.len ≤ 9223372036854775807 := by omega
          clear hlu hlv hts htx
          refine (same_of u6 u11 (fun w p p' c c' h h' => all_any _ u6 u11 (Nat.lt_succ_self _) o6.2.2.2.2.2.1 o11.2.2.2.2.2.1 hle6 hle11 w p p' c c' h h') k k s s (shN b k (shN a k n)) (shN (a + b) k n) q6 q11 d6 d11 W a6 a11).mono ?_
          rintro e w' ⟨rfl, hB⟩
          rw [hal]
          refine hK.out (.bool true) _ _ ?_ ⟨hI.1.below hB, hI.2.1.below hB, hI.2.2.below hB⟩ hB rfl
          simp only [frameOf, Act.put, List.setIfInBounds_toArray, List.set_cons_zero, List.set_cons_succ, Nat.zero_add, Nat.reduceAdd, h3, e6, e11]
        · intro f W hI hd K hK
          simp only [frameOf, Act.put, List.setIfInBounds_toArray, List.set_cons_zero, List.set_cons_succ]
          have h3 : f 3 = .bool false := hd 3 (by kernel_rfl)
          have h12 : f 12 = .bool true := hd 12 (by kernel_rfl)
          rw [h3, h12]
          go_simp
          refine hK.out (.bool false) _ W ?_ hI (Below.refl _ _) rfl
          simp only [frameOf, Act.put, List.setIfInBounds_toArray, List.set_cons_zero, List.set_cons_succ, Nat.zero_add, Nat.reduceAdd, h3, h12]
        · intro f W hI hd K hK
          simp only [frameOf, Act.put, List.setIfInBounds_toArray, List.set_cons_zero, List.set_cons_succ]
          have h3 : f 3 = .bool false := hd 3 (by kernel_rfl)
          have h13 : f 13 = .bool false := hd 13 (by kernel_rfl)
          rw [h3, h13]
          go_simp
          refine hK.out (.bool false) _ W ?_ hI (Below.refl _ _) rfl
          simp only [frameOf, Act.put, List.setIfInBounds_toArray, List.set_cons_zero, List.set_cons_succ, Nat.zero_add, Nat.reduceAdd, h3, h13]
        · intro f W hI hd K hK
          simp only [frameOf, Act.put, List.setIfInBounds_toArray, List.set_cons_zero, List.set_cons_succ]
          have h14 : f 14 = .bool false := hd 14 (by kernel_rfl)
          rw [h14]
          go_simp
          refine hK.out (.bool false) _ W ?_ hI (Below.refl _ _) rfl
          simp only [frameOf, Act.put, List.setIfInBounds_toArray, List.set_cons_zero, List.set_cons_succ, Nat.zero_add, Nat.reduceAdd, h14]
        · intro f W hI hd K hK
          simp only [frameOf, Act.put, List.setIfInBounds_toArray, List.set_cons_zero, List.set_cons_succ]
          have h15 : f 15 = .bool false := hd 15 (by kernel_rfl)
          rw [h15]
          go_simp
          refine hK.out (.slice (some ⟨bc, oc, none⟩) 1 1) _ W ?_ hI (Below.refl _ _) rfl
          simp only [frameOf, Act.put, List.setIfInBounds_toArray, List.set_cons_zero, List.set_cons_succ, Nat.zero_add, Nat.reduceAdd, h15]
        · intro f W hI hd K hK
          simp only [frameOf, Act.put, List.setIfInBounds_toArray, List.set_cons_zero, List.set_cons_succ]
          have h15 : f 15 = .bool false := hd 15 (by kernel_rfl)
          have h16 : f 16 = .slice (some ⟨bc, oc, none⟩) 1 1 := hd 16 (by kernel_rfl)
          rw [h15, h16]
          go_simp
          refine hK.out (.pointer (some ⟨bc, oc, none⟩)) _ W ?_ hI (Below.refl _ _) rfl
          simp only [frameOf, Act.put, List.setIfInBounds_toArray, List.set_cons_zero, List.set_cons_succ, Nat.zero_add, Nat.reduceAdd, h15, h16]
        · intro f W hI hd K hK
          simp only [frameOf, Act.put, List.setIfInBounds_toArray, List.set_cons_zero, List.set_cons_succ]
          have h15 : f 15 = .bool false := hd 15 (by kernel_rfl)
          have h17 : f 17 = .pointer (some ⟨bc, oc, none⟩) := hd 17 (by kernel_rfl)
          have k0 := hI.2.2.c0
          have k1 := hI.2.2.c1
          have k2 := hI.2.2.c2
          have k3 := hI.2.2.c3
          rw [h15, h17]
          go_simp
          refine hK.out (tv k s nc pc uc.len cc) _ W ?_ hI (Below.refl _ _) rfl
          simp only [tv, frameOf, Act.put, List.setIfInBounds_toArray, List.set_cons_zero, List.set_cons_succ, Nat.zero_add, Nat.reduceAdd, h15, h17]
        · intro f W hI hd K hK
          simp only [frameOf, Act.put, List.setIfInBounds_toArray, List.set_cons_zero, List.set_cons_succ]
          have h15 : f 15 = .bool false := hd 15 (by kernel_rfl)
          have h18 : f 18 = tv k s nc pc uc.len cc := hd 18 (by kernel_rfl)
          unfold tv at h18
          rw [h15, h18]
          go_simp
          refine hK.out (.slice (some ⟨W.heap.size, 0, none⟩) 1 1) _ _ ?_ ⟨hI.1.alloc _, hI.2.1.below ((Below.refl _ _).alloc (Nat.le_refl _) _), hI.2.2.below ((Below.refl _ _).alloc (Nat.le_refl _) _)⟩ ((Below.refl _ _).alloc (Nat.le_refl _) _) (ListOf.one hI.2.2.tat _)
          simp only [frameOf, Act.put, List.setIfInBounds_toArray, List.set_cons_zero, List.set_cons_succ, Nat.zero_add, Nat.reduceAdd, h15, h18]
        · intro f W hI hd K hK
          simp only [frameOf, Act.put, List.setIfInBounds_toArray, List.set_cons_zero, List.set_cons_succ]
          have h15 : f 15 = .bool false := hd 15 (by kernel_rfl)
          have h19 : ListOf (.cons k s nc pc cc uc .nil) (f 19) W := hd 19 (by kernel_rfl)
          rw [h15]
          go_simp
          obtain ⟨bl, hl, hl2⟩ := h19
          rw [hl]
          refine (rcount_any _ (.cons k s nc pc cc uc .nil) (Nat.lt_succ_self _) (by omega) OKC.out FITC.out W (some ⟨bl, 0, none⟩) 1 hl2).mono ?_
          rintro e w' ⟨rfl, hB⟩
          rw [CNC.out]
          refine hK.out (.int .i64 zs.length) _ _ ?_ ⟨hI.1.below hB, hI.2.1.below hB, hI.2.2.below hB⟩ hB rfl
          simp only [frameOf, Act.put, List.setIfInBounds_toArray, List.set_cons_zero, List.set_cons_succ, Nat.zero_add, Nat.reduceAdd, h15, hl, Ts.len]
        · intro f W hI hd K hK
          simp only [frameOf, Act.put, List.setIfInBounds_toArray, List.set_cons_zero, List.set_cons_succ]
          have h15 : f 15 = .bool false := hd 15 (by kernel_rfl)
          rw [h15]
          go_simp
          refine hK.out (.slice pz zs.length cz) _ W ?_ hI (Below.refl _ _) rfl
          simp only [frameOf, Act.put, List.setIfInBounds_toArray, List.set_cons_zero, List.set_cons_succ, Nat.zero_add, Nat.reduceAdd, h15]
        · intro f W hI hd K hK
          simp only [frameOf, Act.put, List.setIfInBounds_toArray, List.set_cons_zero, List.set_cons_succ]
          have h15 : f 15 = .bool false := hd 15 (by kernel_rfl)
          have h21 : f 21 = .slice pz zs.length cz := hd 21 (by kernel_rfl)
          rw [h15, h21]
          go_simp
          refine hK.out (.int .i64 zs.length) _ W ?_ hI (Below.refl _ _) rfl
          simp only [frameOf, Act.put, List.setIfInBounds_toArray, List.set_cons_zero, List.set_cons_succ, Nat.zero_add, Nat.reduceAdd, h15, h21]
        · intro f W hI hd K hK
          simp only [frameOf, Act.put, List.setIfInBounds_toArray, List.set_cons_zero, List.set_cons_succ]
          have h15 : f 15 = .bool false := hd 15 (by kernel_rfl)
          have h20 : f 20 = .int .i64 zs.length := hd 20 (by kernel_rfl)
          have h22 : f 22 = .int .i64 zs.length := hd 22 (by kernel_rfl)
          rw [h15, h20, h22]
          go_simp
          refine hK.out (.bool false) _ W ?_ hI (Below.refl _ _) rfl
          simp only [frameOf, Act.put, List.setIfInBounds_toArray, List.set_cons_zero, List.set_cons_succ, Nat.zero_add, Nat.reduceAdd, h15, h20, h22]
        · intro f W hI hd K hK
          simp only [frameOf, Act.put, List.setIfInBounds_toArray, List.set_cons_zero, List.set_cons_succ]
          have h15 : f 15 = .bool false := hd 15 (by kernel_rfl)
          have h23 : f 23 = .bool false := hd 23 (by kernel_rfl)
          rw [h15, h23]
          go_simp
          refine hK.out (.bool false) _ W ?_ hI (Below.refl _ _) rfl
          simp only [frameOf, Act.put, List.setIfInBounds_toArray, List.set_cons_zero, List.set_cons_succ, Nat.zero_add, Nat.reduceAdd, h15, h23]
      case done =>
        intro f W hI hF
        have h24 : f 24 = .bool false := hF 24 (by decide)
        simp only [frameOf, Act.put, List.setIfInBounds_toArray, List.set_cons_zero, List.set_cons_succ]
        rw [h24]
        clear hF h24
        have k0 := hI.1.c0
        have k1 := hI.1.c1
        have k2 := hI.1.c2
        have k3 := hI.1.c3
        obtain ⟨hT, hX, hE⟩ := hI
        clear hE
        obtain ⟨cx, hcx⟩ : ∃ cx : Int, (((cntL (.cons k s (shN a k n) qx dx usx .nil) : Nat) : Int)) = cx := ⟨_, rfl⟩
        have HCX := Lib.hid hcx
        clear hcx
        by_cases hz : (0 : Int) < (zs.length : Int)
        · go_wp2_with fail
          refine (rcount_any _ (.cons k s n p c ts .nil) (Nat.lt_succ_self _) (by simp only [Ts.size]; omega) OK.out FITT.out _ _ 1 (ListOf.oneAt hT.tat _)).mono ?_
          rintro e w9 ⟨rfl, hB⟩
          replace hT := (hT.alloc _).below hB
          replace hX := (hX.alloc _).below hB
          obtain ⟨cn, hcn⟩ : ∃ cn : Int, (((cntL (.cons k s n p c ts .nil) : Nat) : Int)) = cn := ⟨_, rfl⟩
          have hcb : 0 ≤ cn ∧ cn ≤ 1099511627777 := by
            have h1 := cntL_in (M := 1099511627776) (by decide) MM.out
            omega
          have hce : cx = cn + a := by
            have h1 := CNX.out.2 (by omega)
            have h2 := HCX.out
            omega
          rw [hcn]
          have hca : wrap64 (cn + a) = cn + a := wrap64_in (by omega)
          clear hcn hB k0 k1 k2 k3
          have k0 := hX.c0
          have k1 := hX.c1
          have k2 := hX.c2
          have k3 := hX.c3
          go_wp2_with fail
          refine (rcount_any _ (.cons k s (shN a k n) qx dx usx .nil) (Nat.lt_succ_self _) (by simp only [Ts.size]; omega) OKX.out FITX.out _ _ 1 (ListOf.oneAt hX.tat _)).mono ?_
          rintro e w10 ⟨rfl, hB⟩
          rw [HCX.out, hce]
          replace hT := (hT.alloc _).below hB
          clear k0 k1 k2 k3 hB hX
          go_wp2_with fail
          refine (wakes5_any _).mono ?_
          rintro e w11 ⟨rfl, hB⟩
          replace hT := hT.below hB
          go_wp2
          go_ret
          exact ⟨rfl, hT.B⟩
        · clear k0 k1 k2 k3
          have k0 := hX.c0
          have k1 := hX.c1
          have k2 := hX.c2
          have k3 := hX.c3
          have hce : cx = 0 := by
            have h1 := CNX.out.1 (by omega)
            have h2 := HCX.out
            omega
          go_wp2_with fail
          refine (rcount_any _ (.cons k s (shN a k n) qx dx usx .nil) (Nat.lt_succ_self _) (by simp only [Ts.size]; omega) OKX.out FITX.out _ _ 1 (ListOf.oneAt hX.tat _)).mono ?_
          rintro e w10 ⟨rfl, hB⟩
          rw [HCX.out, hce]
          replace hT := (hT.alloc _).below hB
          clear k0 k1 k2 k3 hB hX
          go_wp2_with fail
          refine (wakes5_any _).mono ?_
          rintro e w11 ⟨rfl, hB⟩
          replace hT := hT.below hB
          go_wp2
          go_ret
          exact ⟨rfl, hT.B⟩
end Go.Proofs.Ytlhclblekpngnaa
