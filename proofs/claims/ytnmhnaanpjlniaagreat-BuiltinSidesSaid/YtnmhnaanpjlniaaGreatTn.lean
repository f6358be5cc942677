import Derived.Test.YtnmhnaanpjlniaaGreatTj
import Derived.RangeFuncNested
import Derived.RangeFuncBound
import Derived.RangeFuncCalls
import Derived.RangeFuncLeaves
import Derived.Shelf.Abstract
import Derived.Shelf.RegionOpen
import Derived.OwnWalkIn
import Derived.TacticsInMore
import Derived.LoopNIn
import Derived.LoopIn
import Derived.Maps.OwnIn
import Derived.Maps.AppendAt
import Derived.RangeFuncBox
/-
  Clones of terms: the walk.
-/
namespace Go.Proofs.YtnmhnaanpjlniaaGreat
open Go.RowKit

theorem alloc_new (w : World) (A : Array Value) (t : TypeId) : ∃ W, W = w.alloc (.cells A t) ∧ W.heap.size = w.heap.size + 1 ∧ Below w.heap.size w W ∧ (∀ i v, A[i]? = some v → W.cell? ⟨w.heap.size, i, none⟩ = some v) ∧ (∀ i, W.frozen? ⟨w.heap.size, i, none⟩ = false) := by
  refine ⟨_, rfl, by simp, (Below.refl _ _).alloc (Nat.le_refl _) _, fun i v h => ?_, fun i => ?_⟩
  · rw [_root_.Go.Joins.cell_alloc_mark_at w A t _ _ i rfl]; exact h
  · exact World.frozen?_alloc_new w A t i

/-- a value put into a box, and a term into a list's place -/
theorem put_step (w' : World) (T R x : Nat) (v v0 v1 v2 v3 : Value) (hne : T ≠ R) (r0 : (w'.cell? ⟨R, x, none⟩).isSome) (r1 : (w'.cell? ⟨R, x + 1, none⟩).isSome) (r2 : (w'.cell? ⟨R, x + 2, none⟩).isSome) (r3 : (w'.cell? ⟨R, x + 3, none⟩).isSome) :
    ∃ W, W = (((((w'.setCell ⟨T, 3, none⟩ v).setCell ⟨R, x, none⟩ v0).setCell ⟨R, x + 1, none⟩ v1).setCell ⟨R, x + 2, none⟩ v2).setCell ⟨R, x + 3, none⟩ v3) ∧ W.heap.size = w'.heap.size ∧
      (∀ b y, b ≠ T → b ≠ R → W.cell? ⟨b, y, none⟩ = w'.cell? ⟨b, y, none⟩) ∧ (∀ y, y < x ∨ x + 4 ≤ y → W.cell? ⟨R, y, none⟩ = w'.cell? ⟨R, y, none⟩) ∧
      W.cell? ⟨R, x, none⟩ = some v0 ∧ W.cell? ⟨R, x + 1, none⟩ = some v1 ∧ W.cell? ⟨R, x + 2, none⟩ = some v2 ∧ W.cell? ⟨R, x + 3, none⟩ = some v3 ∧ (∀ b y, W.frozen? ⟨b, y, none⟩ = w'.frozen? ⟨b, y, none⟩) ∧
      (∀ B (w : World), B ≤ T → B ≤ R → Below B w w' → Below B w W) := by
  have hneq : ∀ y z : Nat, y ≠ z → (⟨R, y, none⟩ : Addr) ≠ ⟨R, z, none⟩ := fun y z h e => h (by injection e)
  have hnT : ∀ y z : Nat, (⟨T, y, none⟩ : Addr) ≠ ⟨R, z, none⟩ := fun y z e => hne (by injection e)
  have other : ∀ (u : World) (p q : Addr) (v : Value), p ≠ q → (u.setCell p v).cell? q = u.cell? q := fun u p q v h => World.cell?_setCell_other _ _ _ _ h
  have same : ∀ (u : World) (p : Addr) (v y : Value), u.cell? p = some y → (u.setCell p v).cell? p = some v := fun u p v y h => World.cell?_setCell_same _ _ _ h
  obtain ⟨u0, r0⟩ := Option.isSome_iff_exists.1 r0
  obtain ⟨u1, r1⟩ := Option.isSome_iff_exists.1 r1
  obtain ⟨u2, r2⟩ := Option.isSome_iff_exists.1 r2
  obtain ⟨u3, r3⟩ := Option.isSome_iff_exists.1 r3
  refine ⟨_, rfl, by simp, fun b y h1 h2 => ?_, fun y hy => ?_, ?_, ?_, ?_, ?_, fun b y => by simp, fun B w hT hR hB => ?_⟩
  · have hb : ∀ z : Nat, (⟨R, z, none⟩ : Addr) ≠ ⟨b, y, none⟩ := fun z e => h2 (by injection e with e1; exact e1.symm)
    rw [other _ _ _ _ (hb _), other _ _ _ _ (hb _), other _ _ _ _ (hb _), other _ _ _ _ (hb _), other _ _ _ _ (fun e => h1 (by injection e with e1; exact e1.symm))]
  · rw [other _ _ _ _ (hneq _ _ (by omega)), other _ _ _ _ (hneq _ _ (by omega)), other _ _ _ _ (hneq _ _ (by omega)), other _ _ _ _ (hneq _ _ (by omega)), other _ _ _ _ (hnT _ _)]
  · rw [other _ _ _ _ (hneq _ _ (by omega)), other _ _ _ _ (hneq _ _ (by omega)), other _ _ _ _ (hneq _ _ (by omega))]
    exact same _ _ _ u0 (by rw [other _ _ _ _ (hnT _ _)]; exact r0)
  · rw [other _ _ _ _ (hneq _ _ (by omega)), other _ _ _ _ (hneq _ _ (by omega))]
    exact same _ _ _ u1 (by rw [other _ _ _ _ (hneq _ _ (by omega)), other _ _ _ _ (hnT _ _)]; exact r1)
  · rw [other _ _ _ _ (hneq _ _ (by omega))]
    exact same _ _ _ u2 (by rw [other _ _ _ _ (hneq _ _ (by omega)), other _ _ _ _ (hneq _ _ (by omega)), other _ _ _ _ (hnT _ _)]; exact r2)
  · exact same _ _ _ u3 (by rw [other _ _ _ _ (hneq _ _ (by omega)), other _ _ _ _ (hneq _ _ (by omega)), other _ _ _ _ (hneq _ _ (by omega)), other _ _ _ _ (hnT _ _)]; exact r3)
  · exact ((((hB.setCell (p := ⟨T, 3, none⟩) hT _).setCell (p := ⟨R, x, none⟩) hR _).setCell (p := ⟨R, x + 1, none⟩) hR _).setCell (p := ⟨R, x + 2, none⟩) hR _).setCell (p := ⟨R, x + 3, none⟩) hR _

set_option maxRecDepth 100000 in
set_option maxHeartbeats 2000000 in
theorem clones_any : ∀ (sz : Nat) (ts : Ts), ts.size < sz → ts.size ≤ 1000000 → ts.ok → ∀ (w : World) (p : Option Addr) (c : Nat), Ts.At w p ts →
    Calls Tryz.prog 41 #[.slice p ts.len c] w fun e w' => ∃ (us : Ts) (p' : Option Addr) (c' : Nat), e = .returned (.slice p' us.len c') ∧ Ts.AtB w.heap.size w' p' us ∧ Ts.twin us ts ∧ us.ok ∧ (us.len ≤ c' ∧ c' ≤ 9223372036854775807) ∧ (p' = none → c' = 0) ∧ Below w.heap.size w w' := by
  intro sz
  induction sz with
  | zero => intro ts h; omega
  | succ sz ih =>
    intro ts hsz hbig hok w p c hat
    have hls := Ts.len_size ts
    by_cases h0 : ((ts.len : Int) == 0) = true
    · obtain rfl : ts = .nil := Ts.len_zero (by simp at h0; omega)
      clear h0
      have h0 : Ts.nil.len = 0 := rfl
      go_enter Tryz.func41, Tryz.ntmps41
      go_wp2
      go_ret
      exact ⟨.nil, none, 0, rfl, ⟨0, 0, .inl rfl, trivial⟩, trivial, trivial, ⟨Nat.le_refl _, by omega⟩, fun _ => rfl, Below.refl _ _⟩
    · rw [Bool.not_eq_true] at h0
      have hmk := make_terms ts.len (by omega)
      obtain ⟨b, o, hp, hlies⟩ := hat
      obtain ⟨W1, hW1, hs1, hB1, hc1, hf1⟩ := alloc_new w (zeroCells ts.len) 25
      have hc1' : ∀ x, x < ts.len * 4 → ∃ v, W1.cell? ⟨w.heap.size, x, none⟩ = some v := fun x hx => ⟨_, hc1 x _ (Array.getElem?_eq_getElem (by rw [size_zeroCells]; exact hx))⟩
      go_enter Tryz.func41, Tryz.ntmps41
      go_wp2
      rw [← hW1]
      clear hmk
      have Z := Lib.hid hW1
      have B1 := Lib.hid hB1
      have C1 := Lib.hid hc1'
      have F1 := Lib.hid hf1
      clear hW1 hB1 hc1 hc1' hf1 h0
      go_loopw [14] (fun i wr => ∃ (j : Nat), j ≤ ts.len ∧ i = .int .i64 j ∧ Below w.heap.size w wr ∧ w.heap.size < wr.heap.size ∧ Ts.Done wr w.heap.size ts j ∧ (∀ x, x < ts.len * 4 → ∃ v, wr.cell? ⟨w.heap.size, x, none⟩ = some v) ∧ (∀ x, wr.frozen? ⟨w.heap.size, x, none⟩ = false)) (fun i _ => ts.len - (intOf i).toNat)
      case atStart => exact ⟨0, Nat.zero_le _, rfl, B1.out, by omega, fun m hm => by omega, C1.out, F1.out⟩
      case round =>
        rename_i wr _
        obtain ⟨j, hk, rfl, hB, hR, hD, hC, hF⟩ := hrel
        have B := Lib.hid hB
        have DN := Lib.hid hD
        have C := Lib.hid hC
        have F := Lib.hid hF
        clear hD hC hF
        by_cases hlt : j < ts.len
        · obtain ⟨kk, s1, nn, pp, cc, kids, rest, D, l0, l1, l2, l3, A1, O1, hkl, hsz3, _, hs1, _⟩ := Ts.open_at hlies hB hok hlt
          obtain rfl := Ts.some_of hp hlt
          clear hB hp
          obtain ⟨W3, hW3, hs3, hB3, hc3, hf3⟩ := alloc_new wr #[.int .u8 kk, .string s1, .int .i64 nn, .slice pp kids.len cc] 25
          go_wp2_with fail
          rw [← hW3]
          refine (ih kids (by omega) (by omega) O1.out W3 pp cc (A1.out.below hB3)).mono ?_
          rintro e w' ⟨us, p', c', rfl, hat', htw, hok', hcl, hpn, hB4⟩
          have t0 : w'.cell? ⟨wr.heap.size, 0, none⟩ = some (.int .u8 kk) := (hB4.cell (p := ⟨wr.heap.size, 0, none⟩) (by rw [hs3]; simp)).trans (hc3 0 _ rfl)
          have t1 : w'.cell? ⟨wr.heap.size, 1, none⟩ = some (.string s1) := (hB4.cell (p := ⟨wr.heap.size, 1, none⟩) (by rw [hs3]; simp)).trans (hc3 1 _ rfl)
          have t2 : w'.cell? ⟨wr.heap.size, 2, none⟩ = some (.int .i64 nn) := (hB4.cell (p := ⟨wr.heap.size, 2, none⟩) (by rw [hs3]; simp)).trans (hc3 2 _ rfl)
          have t3 : w'.cell? ⟨wr.heap.size, 3, none⟩ = some (.slice pp kids.len cc) := (hB4.cell (p := ⟨wr.heap.size, 3, none⟩) (by rw [hs3]; simp)).trans (hc3 3 _ rfl)
          have ft : w'.frozen? ⟨wr.heap.size, 3, none⟩ = false := (hB4.frozen (p := ⟨wr.heap.size, 3, none⟩) (by rw [hs3]; simp)).trans (hf3 3)
          have hold : ∀ x, w'.cell? ⟨w.heap.size, x, none⟩ = wr.cell? ⟨w.heap.size, x, none⟩ := fun x => (hB4.cell (p := ⟨w.heap.size, x, none⟩) (by rw [hs3]; simp; omega)).trans (hB3.cell (p := ⟨w.heap.size, x, none⟩) hR)
          have hfold : ∀ x, w'.frozen? ⟨w.heap.size, x, none⟩ = false := fun x => (hB4.frozen (p := ⟨w.heap.size, x, none⟩) (by rw [hs3]; simp; omega)).trans ((hB3.frozen (p := ⟨w.heap.size, x, none⟩) hR).trans (F.out x))
          obtain ⟨x0, r0⟩ := C.out (j * 4) (by omega)
          obtain ⟨x1, r1⟩ := C.out (j * 4 + 1) (by omega)
          obtain ⟨x2, r2⟩ := C.out (j * 4 + 2) (by omega)
          obtain ⟨x3, r3⟩ := C.out (j * 4 + 3) (by omega)
          rw [← hold] at r0 r1 r2 r3
          have f0 := hfold (j * 4)
          have f1 := hfold (j * 4 + 1)
          have f2 := hfold (j * 4 + 2)
          have f3 := hfold (j * 4 + 3)
          have hne : ¬ w.heap.size = wr.heap.size := by omega
          have hne' : ¬ wr.heap.size = w.heap.size := by omega
          have HO := Lib.hid hold
          have HF := Lib.hid hfold
          have AT := Lib.hid hat'
          have TW := Lib.hid htw
          have B4 := Lib.hid hB4
          have B3 := Lib.hid hB3
          have Z3 := Lib.hid hW3
          clear hold hfold hat' htw hB4 hB3 hW3 l0 l1 l2 l3 hc3 hf3
          obtain ⟨W5, hW5, hs5, hc5, hr5, q0, q1, q2, q3, hf5, hB5⟩ := put_step w' wr.heap.size w.heap.size (j * 4) (.slice p' us.len c') (.int .u8 kk) (.string s1) (.int .i64 nn) (.slice p' us.len c') hne' (by rw [r0]; rfl) (by rw [r1]; rfl) (by rw [r2]; rfl) (by rw [r3]; rfl)
          have W5E := Lib.hid hW5
          have W5C := Lib.hid (And.intro hc5 (And.intro hr5 (And.intro hf5 hB5)))
          have W5Q := Lib.hid (And.intro q0 (And.intro q1 (And.intro q2 q3)))
          clear hc5 hr5 hf5 hB5 q0 q1 q2 q3 hW5
          go_wp2
          go_roundw
          case rel =>
            rw [← W5E.out]
            obtain ⟨hc5, hr5, hf5, hB5⟩ := W5C.out
            obtain ⟨q0, q1, q2, q3⟩ := W5Q.out
            have hB34 : Below w.heap.size w w' := (B.out.trans (B3.out.mono B.out.size)).trans (B4.out.mono (by rw [hs3]; omega))
            have hsz5 : w.heap.size < W5.heap.size := by rw [hs5]; have := B4.out.size; omega
            refine ⟨j + 1, by omega, by go_num, hB5 _ _ (by omega) (Nat.le_refl _) hB34, hsz5, ?_, ?_, fun x => by rw [hf5]; exact HF.out x⟩
            · intro m hm k s n pk ck kd rs hd
              by_cases e : m = j
              · subst e
                rw [D.out] at hd
                injection hd with e1 e2 e3 e4 e5 e6 e7
                subst e1 e2 e3 e4 e5 e6 e7
                refine ⟨p', c', us, q0, q1, q2, q3, AT.out.stay (by rw [hs3]; omega) (fun b y hb hlt => hc5 b y (by rw [hs3] at hb; omega) (by rw [hs3] at hb; omega)), TW.out, hok', hcl, hpn⟩
              · obtain ⟨p2, c2, k2, d0, d1, d2, d3, d4, d5, d6, d7, d8⟩ := DN.out m (by omega) _ _ _ _ _ _ _ hd
                have hsame : ∀ y, y < j * 4 → W5.cell? ⟨w.heap.size, y, none⟩ = wr.cell? ⟨w.heap.size, y, none⟩ := fun y hy => (hr5 y (.inl hy)).trans (HO.out y)
                have hm' : m * 4 + 3 < j * 4 := by omega
                refine ⟨p2, c2, k2, (hsame _ (by omega)).trans d0, (hsame _ (by omega)).trans d1, (hsame _ (by omega)).trans d2, (hsame _ (by omega)).trans d3, d4.stay (Nat.le_refl _) (fun b y hb hlt => ?_), d5, d6, d7, d8⟩
                rw [hc5 b y (by omega) (by omega)]
                exact (B4.out.cell (p := ⟨b, y, none⟩) (by rw [hs3]; simp; omega)).trans (B3.out.cell (p := ⟨b, y, none⟩) hlt)
            · intro x hx
              by_cases h1 : x < j * 4 ∨ j * 4 + 4 ≤ x
              · rw [hr5 x h1, HO.out]; exact C.out x hx
              · obtain h2 | h2 | h2 | h2 : x = j * 4 ∨ x = j * 4 + 1 ∨ x = j * 4 + 2 ∨ x = j * 4 + 3 := by omega
                · exact ⟨_, by rw [h2]; exact q0⟩
                · exact ⟨_, by rw [h2]; exact q1⟩
                · exact ⟨_, by rw [h2]; exact q2⟩
                · exact ⟨_, by rw [h2]; exact q3⟩
          case measure => simp [intOf]; omega
        · have hj : j = ts.len := by omega
          subst hj
          obtain ⟨us, hl, htw, hok'⟩ := DN.out.made hok
          have hlen := Ts.twin_len us ts htw
          have HL := Lib.hid hlen
          have LI := Lib.hid hl
          have TW := Lib.hid htw
          clear hl htw hlen hB
          go_wp2
          go_ret
          exact ⟨us, some ⟨w.heap.size, 0, none⟩, ts.len, by rw [HL.out]; rfl, ⟨w.heap.size, 0, .inr rfl, LI.out⟩, TW.out, hok', ⟨by rw [HL.out]; exact Nat.le_refl _, by omega⟩, (fun h => by cases h), B.out⟩
end Go.Proofs.YtnmhnaanpjlniaaGreat
/-
  Terms that are made.
-/
namespace Go.Proofs.YtnmhnaanpjlniaaGreat
open Go.RowKit

set_option maxHeartbeats 1000000 in
theorem V_any (n : Int) (w : World) : Calls Tryz.prog 27 #[.int .i64 n] w fun e w' => e = .returned (tv 1 ⟨#[]⟩ n none 0 0) ∧ Below w.heap.size w w' := by
  go_enter Tryz.func27, Tryz.ntmps27
  go_wp2
  exact bodyPost_ret (v := tv 1 ⟨#[]⟩ n none 0 0) (by simp [results, Tryz.results27, go_sem, tv]) rfl ⟨rfl, (Below.refl _ _).alloc (Nat.le_refl _) _⟩

set_option maxHeartbeats 1000000 in
theorem I_any (n : Int) (w : World) : Calls Tryz.prog 34 #[.int .i64 n] w fun e w' => e = .returned (tv 2 ⟨#[]⟩ n none 0 0) ∧ Below w.heap.size w w' := by
  go_enter Tryz.func34, Tryz.ntmps34
  go_wp2
  exact bodyPost_ret (v := tv 2 ⟨#[]⟩ n none 0 0) (by simp [results, Tryz.results34, go_sem, tv]) rfl ⟨rfl, (Below.refl _ _).alloc (Nat.le_refl _) _⟩

set_option maxHeartbeats 1000000 in
theorem A_any (s : ByteArray) (w : World) : Calls Tryz.prog 35 #[.string s] w fun e w' => e = .returned (tv 3 s 0 none 0 0) ∧ Below w.heap.size w w' := by
  go_enter Tryz.func35, Tryz.ntmps35
  go_wp2
  exact bodyPost_ret (v := tv 3 s 0 none 0 0) (by simp [results, Tryz.results35, go_sem, tv]) rfl ⟨rfl, (Below.refl _ _).alloc (Nat.le_refl _) _⟩

set_option maxHeartbeats 1000000 in
theorem F_any (s : ByteArray) (ts : Ts) (hbig : ts.size ≤ 1000000) (hok : ts.ok) (w : World) (p : Option Addr) (c : Nat) (hat : Ts.At w p ts) :
    Calls Tryz.prog 14 #[.string s, .slice p ts.len c] w fun e w' => ∃ (us : Ts) (p' : Option Addr) (c' : Nat), e = .returned (tv (if ts.len = 0 then 3 else 4) s 0 p' us.len c') ∧ Ts.AtB w.heap.size w' p' us ∧ Ts.twin us ts ∧ us.ok ∧ (us.len ≤ c' ∧ c' ≤ 9223372036854775807) ∧ (p' = none → c' = 0) ∧ Below w.heap.size w w' := by
  have hls := Ts.len_size ts
  by_cases h0 : ((ts.len : Int) == 0) = true
  · have hl0 : ts.len = 0 := by simp at h0; omega
    obtain rfl : ts = .nil := Ts.len_zero hl0
    clear h0
    have h0 : Ts.nil.len = 0 := rfl
    go_enter Tryz.func14, Tryz.ntmps14
    go_wp2_with fail
    refine (A_any s _).mono ?_
    rintro e w' ⟨rfl, hB⟩
    unfold tv
    have hB0 : Below w.heap.size w (w.alloc (.cells #[.int .u8 0, .string ⟨#[]⟩, .int .i64 0, .slice none 0 0] 25)) := (Below.refl _ _).alloc (Nat.le_refl _) _
    obtain ⟨hc, hf⟩ := stays hB
    have hz1 : w.heap.size < w'.heap.size := by have := hB.size; simp at this; omega
    go_wp2
    refine bodyPost_ret (v := tv 3 s 0 none 0 0) (by simp [results, Tryz.results14, go_sem, hc, tv]) rfl ⟨.nil, none, 0, rfl, ⟨0, 0, .inl rfl, trivial⟩, trivial, trivial, ⟨Nat.le_refl _, by omega⟩, fun _ => rfl, ?_⟩
    repeat (first | exact hB0.trans (hB.mono hB0.size) | refine Below.setCell (p := ⟨w.heap.size, _, none⟩) ?_ (by simp) _)
  · rw [Bool.not_eq_true] at h0
    have hl0 : Hid (¬ ts.len = 0) := Lib.hid (by simp at h0; omega)
    go_enter Tryz.func14, Tryz.ntmps14
    go_wp2_with fail
    have hB0 : Below w.heap.size w (w.alloc (.cells #[.int .u8 0, .string ⟨#[]⟩, .int .i64 0, .slice none 0 0] 25)) := (Below.refl _ _).alloc (Nat.le_refl _) _
    refine (clones_any _ ts (Nat.lt_succ_self _) hbig hok _ p c (hat.below hB0)).mono ?_
    rintro e w' ⟨us, p', c', rfl, hat', htw, hok', hcl, hpn, hB⟩
    obtain ⟨hc, hf⟩ := stays hB
    have hz1 : w.heap.size < w'.heap.size := by have := hB.size; simp at this; omega
    have AT := Lib.hid hat'
    have TW := Lib.hid htw
    have BB := Lib.hid (hB0.trans (hB.mono hB0.size))
    clear hat' htw
    go_wp2
    refine bodyPost_ret (v := tv 4 s 0 p' us.len c') (by simp [results, Tryz.results14, go_sem, hc, tv]) rfl ⟨us, p', c', rfl, ?_, TW.out, hok', hcl, hpn, ?_⟩
    · refine AT.out.stay (by simp) fun b y hb hlt => ?_
      have hne : b ≠ w.heap.size := by simp at hb; omega
      simp [go_sem]
    · repeat (first | exact BB.out | refine Below.setCell (p := ⟨w.heap.size, _, none⟩) ?_ (by simp) _)
end Go.Proofs.YtnmhnaanpjlniaaGreat
/-
  A range over a function whose iterator keeps its state in memory of its own: a law for it. "mine" tells the blocks that are the body's own among those laid since the loop began.
-/
namespace Go.Proofs.YtnmhnaanpjlniaaGreat
open Go.RowKit

/-- what is said stays said while blocks from B on turn that aren't the body's -/
def Steady {α : Type} (B : Nat) (mine : World → Nat → Prop) (J : List α → World → Prop) : Prop :=
  ∀ s W W' row, J s W → W.grownBy W' row → (∀ r, row = some r → B ≤ r ∧ ¬ mine W r) → J s W'

/-- what a round that goes on leaves as it was -/
def Kept (lo hi : Nat) (mine : World → Nat → Prop) (W W' : World) : Prop :=
  W.heap.size ≤ W'.heap.size ∧ (∀ k, (k < lo ∨ hi ≤ k) → k < W.heap.size → ¬ mine W k → W'.heap[k]? = W.heap[k]? ∧ ¬ mine W' k) ∧ ((∀ k, W.heap.size ≤ k → ¬ mine W k) → ∀ k, W'.heap.size ≤ k → ¬ mine W' k)

def Seq {α : Type} (F : Fence) (n : Nat) (P : Program) (g : Nat) (lb : Array Value) (encs : α → Array Value) (mine : World → Nat → Prop) (S Sp : List α → Prop) (w : World) : Prop :=
  ∀ (l : Nat) (J Jx : List α → World → Prop) (W : World), Below w.heap.size w W → (∀ k, W.heap.size ≤ k → ¬ mine W k) → (∀ W1 W' row k, W1.grownBy W' row → (∀ r, row = some r → W.heap.size ≤ r ∧ ¬ mine W1 r) → ¬ mine W1 k → ¬ mine W' k) → Steady W.heap.size mine J → Steady W.heap.size mine Jx →
    (∀ pre x W1, J pre W1 → Sp (pre ++ [x]) → YieldAt F (n - 1) P l (encs x) W1 fun e W' =>
      (e = .returned (.bool true) ∧ J (pre ++ [x]) W' ∧ Kept w.heap.size W.heap.size mine W1 W') ∨ (e = .returned (.bool false) ∧ Jx (pre ++ [x]) W')) →
    J [] W →
    CallsIn F n P g (#[.func (.yield l) #[] #[]] ++ lb) W fun e W' => (∃ v, e = .returned v) ∧ ((∃ xs, S xs ∧ J xs W') ∨ (∃ pre, Sp pre ∧ Jx pre W'))

/-- how a round may be left -/
def leftBy {α : Type} (lo B : Nat) (mine : World → Nat → Prop) (I : List α → World → Prop) (Ix : Code → List α → World → Prop) (xs : List α) (W : World) : Exit → Act → World → Prop
  | .normal, _, W' => KeepsFrom B W W' ∧ Kept lo (B + 2) mine W W' ∧ I xs W'
  | .ret, _, W' => KeepsFrom B W W' ∧ Ix .ret xs W'
  | .exit id, _, W' => KeepsFrom B W W' ∧ Ix (.exit id) xs W'
  | _, _, _ => False

theorem range_law {α : Type} {F : Fence} {n : Nat} {P : Program} {g : Operand} {ps : Array Tmp} {assign body : Code} {Q : Exit → Act → World → Prop} {a : Act} {w : World}
    (hround : F.round = none) (h1 : 1 ≤ n) {gf : Nat} {lb : Array Value} (hg : a.eval g = .func (.func gf) #[] lb) (hfn : F.fn gf) (henter : ∀ args w, (callFunc gf args).run P w = .ok (.enter gf args) w)
    {encs : α → Array Value} {mine : World → Nat → Prop} {S Sp : List α → Prop} {w0 : World} (hseq : Seq F (n - 1) P gf lb encs mine S Sp w0)
    (hmine : ∀ W W' row k, W.grownBy W' row → (∀ r, row = some r → w.heap.size ≤ r ∧ ((∃ o : Obj, W.heap[r]? = some o ∧ o.isCells = false) ∨ ¬ mine W r)) → ¬ mine W k → ¬ mine W' k)
    (hnew : ∀ k, w.heap.size ≤ k → ¬ mine w k)
    (hb0 : Below w0.heap.size w0 w) (hps : ∀ x, (encs x).size = ps.size)
    (I : List α → World → Prop) (Ix : Code → List α → World → Prop)
    (hI : ∀ s W W' row, I s W → W.grownBy W' row → (∀ r, row = some r → w.heap.size ≤ r ∧ ((∃ o : Obj, W.heap[r]? = some o ∧ o.isCells = false) ∨ ¬ mine W r)) → I s W')
    (hIx : ∀ c s W W' row, Ix c s W → W.grownBy W' row → (∀ r, row = some r → w.heap.size ≤ r ∧ ((∃ o : Obj, W.heap[r]? = some o ∧ o.isCells = false) ∨ ¬ mine W r)) → Ix c s W')
    (hstart : I [] w) (a₁ : α → World → Act → Prop)
    (hassign : ∀ (l : Nat) (pre : List α) (x : α) (W : World) (K : Act → World → Prop), I pre W → (∀ a' W', a₁ x W' a' → KeepsFrom w.heap.size W W' → Kept w0.heap.size (w.heap.size + 2) mine W W' → I pre W' → K a' W') →
      assign.wpIn (F.inRound l) (n - 1 - 1) P (Exit.then K (fun _ _ _ => False)) { tmps := (ps.zip (encs x)).foldl (fun t (p, v) => t.setIfInBounds p v) a.tmps, defers := [] } W)
    (ha₁ : ∀ x a' W W' row, a₁ x W a' → W.grownBy W' row → (∀ r, row = some r → w.heap.size ≤ r ∧ ∃ o : Obj, W.heap[r]? = some o ∧ o.isCells = false) → a₁ x W' a')
    (hbody : ∀ (l : Nat) (pre : List α) (x : α) (a' : Act) (W : World), I pre W → a₁ x W a' → Sp (pre ++ [x]) → body.wpIn (F.inRound l) (n - 1 - 1) P (leftBy w0.heap.size w.heap.size mine I Ix (pre ++ [x]) W) a' W)
    (hdone : ∀ (D : Nat) (xs : List α) (W : World), w.heap.size ≤ D → S xs → I xs W → W.heap[D]? = some (.deferred (some [])) → Q .normal { a with defers := { target := .collected D, args := #[] } :: a.defers } W)
    (hstop : ∀ (D : Nat) (c : Code) (pre : List α) (W : World), w.heap.size ≤ D → Sp pre → Ix c pre W → W.heap[D]? = some (.deferred (some [])) → c.wpIn F n P Q { a with defers := { target := .collected D, args := #[] } :: a.defers } W) :
    (Code.rangeFunc g ps assign body).wpIn F n P Q a w := by
  refine wpIn_rangeFunc fun fn hfn' => ?_
  rw [hround]
  let D := w.heap.size
  let l := w.heap.size + 1
  let rec_ : LoopState → Option Code → Loop := fun st pe => { state := st, pending := pe, fn, tmps := a.tmps, params := ps, assign, body, defers := D }
  -- the two blocks of the loop
  have hbook : ∃ W1 : World, W1 = (w.alloc (.deferred (some []))).alloc (.loop (rec_ .ready none)) ∧ W1.heap.size = w.heap.size + 2 ∧ W1.heap[l]? = some (.loop (rec_ .ready none)) ∧ W1.heap[D]? = some (.deferred (some [])) ∧ I [] W1 ∧ Below w.heap.size w W1 ∧ (∀ k, w.heap.size ≤ k → ¬ mine W1 k) := by
    refine ⟨_, rfl, by simp, ?_, ?_, ?_, ((Below.refl _ w).alloc (Nat.le_refl _) _).alloc (by simp) _, fun k hk => ?_⟩
    · have := World.alloc_heap_new (w.alloc (.deferred (some []))) (.loop (rec_ .ready none)); rwa [World.size_alloc] at this
    · exact (Below.heap_alloc _ _ _ (by simp [D])).trans (World.alloc_heap_new w _)
    · exact hI _ _ _ none (hI _ _ _ none hstart (World.grownBy_alloc w _ none) (fun r e => by cases e)) (World.grownBy_alloc _ _ none) (fun r e => by cases e)
    · exact hmine _ _ none k (World.grownBy_alloc _ _ none) (fun r e => by cases e) (hmine _ _ none k (World.grownBy_alloc w _ none) (fun r e => by cases e) (hnew k hk))
  obtain ⟨W1, hW1, hsz1, hrec1, hdef1, hI1, hB1, hm1⟩ := hbook
  have hlD : l ≠ D := by simp [l, D]
  -- turning the record
  have turn : ∀ (W : World) (r r' : Loop), W.heap[l]? = some (.loop r) → W.grownBy (W.putObj l (.loop r')) (some l) ∧ (∀ q, some l = some q → w.heap.size ≤ q ∧ ∃ o : Obj, W.heap[q]? = some o ∧ o.isCells = false) := fun W r r' h =>
    ⟨grownBy_putObj' W l _, fun q e => by cases e; exact ⟨Nat.le_succ _, _, h, rfl⟩⟩
  have turnI : ∀ s (W : World) (r r' : Loop), W.heap[l]? = some (.loop r) → I s W → I s (W.putObj l (.loop r')) := fun s W r r' h hs =>
    hI _ _ _ (some l) hs (turn W r r' h).1 fun q e => ⟨((turn W r r' h).2 q e).1, .inl ((turn W r r' h).2 q e).2⟩
  have turnIx : ∀ c s (W : World) (r r' : Loop), W.heap[l]? = some (.loop r) → Ix c s W → Ix c s (W.putObj l (.loop r')) := fun c s W r r' h hs =>
    hIx c _ _ _ (some l) hs (turn W r r' h).1 fun q e => ⟨((turn W r r' h).2 q e).1, .inl ((turn W r r' h).2 q e).2⟩
  have turnK : ∀ (W : World) (r r' : Loop), W.heap[l]? = some (.loop r) → Kept w0.heap.size (w.heap.size + 2) mine W (W.putObj l (.loop r')) := fun W r r' h => by
    refine ⟨(turn W r r' h).1.size, fun k hk hlt hnm => ⟨World.putObj_heap_other (by have := hb0.size; simp only [l]; omega), hmine _ _ (some l) k (turn W r r' h).1 (fun q e => ⟨((turn W r r' h).2 q e).1, .inl ((turn W r r' h).2 q e).2⟩) hnm⟩, fun hb k hk => hmine _ _ (some l) k (turn W r r' h).1 (fun q e => ⟨((turn W r r' h).2 q e).1, .inl ((turn W r r' h).2 q e).2⟩) (hb k (Nat.le_trans (turn W r r' h).1.size hk))⟩
  have keptT : ∀ {A B C : World}, Kept w0.heap.size (w.heap.size + 2) mine A B → Kept w0.heap.size (w.heap.size + 2) mine B C → Kept w0.heap.size (w.heap.size + 2) mine A C := fun {A B C} h k =>
    ⟨Nat.le_trans h.1 k.1, fun i hi hlt hn => by
      obtain ⟨e1, m1⟩ := h.2.1 i hi hlt hn
      obtain ⟨e2, m2⟩ := k.2.1 i hi (Nat.lt_of_lt_of_le hlt h.1) m1
      exact ⟨e2.trans e1, m2⟩, fun hb => k.2.2 (h.2.2 hb)⟩
  have keepsL : ∀ {A B : World} {r : Loop}, KeepsFrom w.heap.size A B → A.heap[l]? = some (.loop r) → B.heap[l]? = some (.loop r) := fun hk h => hk.same l _ (Nat.le_succ _) h rfl
  have keepsD : ∀ {A B : World}, KeepsFrom w.heap.size A B → A.heap[D]? = some (.deferred (some [])) → B.heap[D]? = some (.deferred (some [])) := fun hk h => hk.same D _ (Nat.le_refl _) h rfl
  have putD : ∀ {A : World} {o : Obj}, A.heap[D]? = some (.deferred (some [])) → (A.putObj l o).heap[D]? = some (.deferred (some [])) := fun h => (World.putObj_heap_other (Ne.symm hlD)).trans h
  have putL : ∀ {A : World} {r r' : Loop}, A.heap[l]? = some (.loop r) → (A.putObj l (.loop r')).heap[l]? = some (.loop r') := fun h => World.putObj_heap_same (Array.getElem?_eq_some_iff.1 h).1
  have growL : ∀ {A B : World} {row : Option Nat} {o : Obj} {q : Nat}, A.grownBy B row → (∀ r, row = some r → W1.heap.size ≤ r ∧ ¬ mine A r) → q < w.heap.size + 2 → A.heap[q]? = some o → B.heap[q]? = some o := fun {A B row o q} hg' hr hq h =>
    (hg'.block q (Array.getElem?_eq_some_iff.1 h).1 (fun e => by have := (hr q e.symm).1; omega)).trans h
  refine ⟨l, [{ target := .collected D, args := #[] }], W1, { target := .fn (.func gf) lb, args := #[.func (.yield l) #[] #[]] }, W1, gf, #[.func (.yield l) #[] #[]] ++ lb, W1, ?_, ?_, ?_, ?_, fun _ => h1, ?_⟩
  · rw [hW1]; exact run_enterLoop_outer _ _ _ _ _
  · simp only [resolve, hg]
    simp [go_sem]
  · intro f' hf'
    simp [Target.leads] at hf'
    subst hf'
    exact hfn
  · simp [invoke, go_sem, henter]
  · refine (hseq l
      (fun pre W => I pre W ∧ W.heap[l]? = some (.loop (rec_ .ready none)) ∧ W.heap[D]? = some (.deferred (some [])))
      (fun pre W => ∃ c, Ix c pre W ∧ W.heap[l]? = some (.loop (rec_ .done (some c))) ∧ W.heap[D]? = some (.deferred (some [])))
      W1 (hb0.trans (hB1.mono hb0.size)) (fun k hk => hm1 k (by omega)) (fun A B row k hg' hr hk => hmine A B row k hg' (fun r e => ⟨by have := (hr r e).1; omega, .inr (hr r e).2⟩) hk) ?_ ?_ ?_ ⟨hI1, hrec1, hdef1⟩).mono ?_
    · intro s A B row hs hg' hr
      exact ⟨hI s A B row hs.1 hg' (fun r e => ⟨by have := (hr r e).1; omega, .inr (hr r e).2⟩), growL hg' hr (by simp only [l]; omega) hs.2.1, growL hg' hr (by simp only [D]; omega) hs.2.2⟩
    · intro s A B row hs hg' hr
      obtain ⟨c, hc, h2, h3⟩ := hs
      exact ⟨c, hIx c s A B row hc hg' (fun r e => ⟨by have := (hr r e).1; omega, .inr (hr r e).2⟩), growL hg' hr (by simp only [l]; omega) h2, growL hg' hr (by simp only [D]; omega) h3⟩
    · -- a round
      rintro pre x W ⟨hi, hl, hk⟩ hlen
      have hy := run_yield (P := P) (args := encs x) hl (hps x)
      refine ⟨fn, _, assign, body, hy, roundIn_of_wpIn hfn' (hassign _ pre x W _ hi fun a' W2 ha' hkf hkp hi2 => ?_)⟩
      have hl2 := keepsL hkf hl
      refine ⟨_, run_beginRound hl2 rfl, ?_⟩
      have hl3 : (W2.putObj l (.loop (rec_ .busy none))).heap[l]? = some (.loop (rec_ .busy none)) := putL hl2
      have hd3 : (W2.putObj l (.loop (rec_ .busy none))).heap[D]? = some (.deferred (some [])) := putD (keepsD hkf hk)
      have hk3 := keptT hkp (turnK W2 _ (rec_ .busy none) hl2)
      refine wpIn_mono (hbody _ pre x a' _ (turnI _ _ _ (rec_ .busy none) hl2 hi2) (ha₁ _ _ _ _ (some l) ha' (turn W2 _ (rec_ .busy none) hl2).1 (turn W2 _ (rec_ .busy none) hl2).2) hlen) ?_
      rintro e a3 W3 hp
      cases e with
      | normal =>
        obtain ⟨hkf3, hkp3, hi3⟩ := hp
        have hl4 := keepsL hkf3 hl3
        exact ⟨_, _, run_endRound none hl4, .inl ⟨rfl, ⟨turnI _ _ _ _ hl4 hi3, putL hl4, putD (keepsD hkf3 hd3)⟩, by rw [hsz1]; exact keptT hk3 (keptT hkp3 (turnK _ _ _ hl4))⟩⟩
      | ret =>
        obtain ⟨hkf3, hi3⟩ := hp
        have hl4 := keepsL hkf3 hl3
        exact ⟨_, _, run_endRound (some .ret) hl4, .inr ⟨rfl, .ret, turnIx _ _ _ _ _ hl4 hi3, putL hl4, putD (keepsD hkf3 hd3)⟩⟩
      | exit id =>
        obtain ⟨hkf3, hi3⟩ := hp
        have hl4 := keepsL hkf3 hl3
        exact ⟨_, _, run_endRound (some (.exit id)) hl4, .inr ⟨rfl, .exit id, turnIx _ _ _ _ _ hl4 hi3, putL hl4, putD (keepsD hkf3 hd3)⟩⟩
      | goto t => exact hp.elim
      | panic ch => exact hp.elim
      | outgrown => exact hp.elim
    · -- behind the iterator
      rintro e W2 ⟨⟨v, rfl⟩, (⟨xs, hS, hi, hl, hk⟩ | ⟨pre, hSp, c, hi, hl, hk⟩)⟩
      · exact ⟨none, _, run_endLoop hl (by simp [rec_]), hdone D xs _ (Nat.le_refl _) hS (turnI _ _ _ _ hl hi) (putD hk)⟩
      · exact ⟨some c, _, run_endLoop hl (by simp [rec_]), hstop D c pre _ (Nat.le_refl _) hSp (turnIx _ _ _ _ _ hl hi) (putD hk)⟩

end Go.Proofs.YtnmhnaanpjlniaaGreat
/-
  The nodes of terms, one by one: the iterator.
-/
namespace Go.Proofs.YtnmhnaanpjlniaaGreat
open Go.RowKit
attribute [local go_sem] Oper.semAt_some

structure Nd where
  k : Int
  s : ByteArray
  n : Int
  p : Option Addr
  c : Nat
  kids : Ts

def Nd.val (x : Nd) : Value := .agg #[.int .u8 x.k, .string x.s, .int .i64 x.n, .slice x.p x.kids.len x.c]

def nodesOf : Ts → List Nd
  | .nil => []
  | .cons k s n p c kids rest => ⟨k, s, n, p, c, kids⟩ :: (nodesOf kids ++ nodesOf rest)


namespace Ts
/-- like lies, in blocks that P tells -/
def liesP (P : Nat → Prop) (w : World) : Nat → Nat → Ts → Prop
  | _, _, .nil => True
  | b, o, .cons k s n p cap kids rest =>
    P b ∧ w.cell? ⟨b, o, none⟩ = some (.int .u8 k) ∧ w.cell? ⟨b, o + 1, none⟩ = some (.string s) ∧ w.cell? ⟨b, o + 2, none⟩ = some (.int .i64 n) ∧ w.cell? ⟨b, o + 3, none⟩ = some (.slice p kids.len cap) ∧
    (∃ b' o', (kids = .nil ∨ p = some ⟨b', o', none⟩) ∧ liesP P w b' o' kids) ∧ liesP P w b (o + 4) rest

def AtP (P : Nat → Prop) (w : World) (p : Option Addr) (ts : Ts) : Prop := ∃ b o, (ts = .nil ∨ p = some ⟨b, o, none⟩) ∧ ts.liesP P w b o

theorem liesP_stay {P : Nat → Prop} {w w' : World} (hc : ∀ b, P b → b < w.heap.size → w'.heap[b]? = w.heap[b]?) : ∀ (ts : Ts) {b o : Nat}, ts.liesP P w b o → ts.liesP P w' b o
  | .nil, _, _, _ => trivial
  | .cons k s n p cap kids rest, b, o, ⟨hb, h0, h1, h2, h3, ⟨b', o', h4, h5⟩, h6⟩ => by
    have hlt : b < w.heap.size := World.block_lt_of_cell? _ _ h0
    have e := fun x => World.cell?_of_block (a := ⟨b, x, none⟩) (hc b hb hlt)
    exact ⟨hb, (e _).trans h0, (e _).trans h1, (e _).trans h2, (e _).trans h3, ⟨b', o', h4, liesP_stay hc kids h5⟩, liesP_stay hc rest h6⟩

theorem AtP.stay {P : Nat → Prop} {w w' : World} {p : Option Addr} {ts : Ts} (h : AtP P w p ts) (hc : ∀ b, P b → b < w.heap.size → w'.heap[b]? = w.heap[b]?) : AtP P w' p ts := by
  obtain ⟨b, o, h1, h2⟩ := h
  exact ⟨b, o, h1, liesP_stay hc ts h2⟩

theorem lies_liesP {w : World} : ∀ (ts : Ts) {b o : Nat}, ts.lies w b o → ts.liesP (· < w.heap.size) w b o
  | .nil, _, _, _ => trivial
  | .cons _ _ _ _ _ kids rest, _, _, ⟨h0, h1, h2, h3, ⟨b', o', h4, h5⟩, h6⟩ => ⟨World.block_lt_of_cell? _ _ h0, h0, h1, h2, h3, ⟨b', o', h4, lies_liesP kids h5⟩, lies_liesP rest h6⟩

theorem At.atP {w : World} {p : Option Addr} {ts : Ts} (h : At w p ts) : AtP (· < w.heap.size) w p ts := by
  obtain ⟨b, o, h1, h2⟩ := h
  exact ⟨b, o, h1, lies_liesP ts h2⟩
end Ts

/-- what waits: a rest of a list -/
structure Ent where
  p : Option Addr
  ts : Ts
  c : Nat
def Ent.val (e : Ent) : Value := .slice e.p e.ts.len e.c
def rem : List Ent → List Nd
  | [] => []
  | e :: st => nodesOf e.ts ++ rem st






theorem infoTerms : (Tryz.prog.info? 23).map (fun i => (i.zero, i.size, i.bytes)) = some (some (.slice none 0 0), 1, 24) := by kernel_rfl

theorem ownsRow_block {w w' : World} {base : Nat} {e : TypeId} {g n cap : Nat} {xs : List Value} (h : w.ownsRow base e 1 (.slice (some ⟨g, 0, none⟩) n cap) n xs) (he : w'.heap[g]? = w.heap[g]?) : w'.ownsRow base e 1 (.slice (some ⟨g, 0, none⟩) n cap) n xs := by
  obtain ⟨h1, h2⟩ := h
  refine ⟨h1, ?_⟩
  rcases h2 with ⟨hv, _⟩ | ⟨g', cap', cur, hv, hb, hh, hr⟩
  · cases hv
  · cases hv
    exact .inr ⟨g, cap, cur, rfl, hb, he.trans hh, hr⟩

theorem set_last (A : List Value) (u v : Value) (n : Nat) (h : n = A.length) : (A ++ [u]).set n v = A ++ [v] := by
  subst h
  simp


end Go.Proofs.YtnmhnaanpjlniaaGreat
