/-
  Layer 2: Compare and compareArgs. (Written by gen_xb.py.)
-/
import Derived.Test.YtlhclblekpngnaaXa
import Derived.Test.YtlhclblekpngnaaTw
import Derived.Test.YtlhclblekpngnaaTz
namespace Go.Proofs.Ytlhclblekpngnaa
open Go.RowKit

def or0 (a b : Int) : Int := if a = 0 then b else a

/-- how two heads stand, and behind them what their args say -/
def cmpT (k k' : Int) (s s' : ByteArray) (n n' : Int) (ts us : Ts) (r : Int) : Int := or0 (ci k k') (or0 (ci n n') (or0 (ci ts.len us.len) (or0 (cb s s') r)))

/-- how two lists stand, by the first pair that is not alike -/
def cmpL : Ts → Ts → Int
  | .cons k s n _ _ ks r, .cons k' s' n' _ _ ks' r' => or0 (cmpT k k' s s' n n' ks ks' (cmpL ks ks')) (cmpL r r')
  | _, _ => 0

theorem ci_zero {a b : Nat} (h : ci a b = 0) : a = b := by
  unfold ci at h
  split at h
  · omega
  · split at h
    · omega
    · omega

section
variable {w0 w1 : World} {A B : Nat} {k k' : Int} {s s' : ByteArray} {n n' : Int} {p p' : Option Addr} {c c' : Nat} {ts us : Ts} {W : World}

set_option maxHeartbeats 1000000 in
theorem cl1 (hA : TT w0 A k s n p c ts W) (hB : TT w1 B k' s' n' p' c' us W) :
    Calls Try.prog 59 #[.pointer (some ⟨A, 0, none⟩), .pointer (some ⟨B, 0, none⟩)] W fun e w' => e = .returned (.int .i64 (ci k k')) ∧ w' = W := by
  have a0 := hA.c0
  have a1 := hA.c1
  have a2 := hA.c2
  have a3 := hA.c3
  have b0 := hB.c0
  have b1 := hB.c1
  have b2 := hB.c2
  have b3 := hB.c3
  go_enter Try.func59, Try.ntmps59
  go_wp2_with fail
  refine (cmp_u8 _ _ _).mono ?_
  rintro e w' ⟨rfl, rfl⟩
  go_wp2
  go_ret
  exact ⟨rfl, rfl⟩

set_option maxHeartbeats 1000000 in
theorem cl2 (hA : TT w0 A k s n p c ts W) (hB : TT w1 B k' s' n' p' c' us W) :
    Calls Try.prog 61 #[.pointer (some ⟨A, 0, none⟩), .pointer (some ⟨B, 0, none⟩)] W fun e w' => e = .returned (.int .i64 (ci n n')) ∧ w' = W := by
  have a0 := hA.c0
  have a1 := hA.c1
  have a2 := hA.c2
  have a3 := hA.c3
  have b0 := hB.c0
  have b1 := hB.c1
  have b2 := hB.c2
  have b3 := hB.c3
  go_enter Try.func61, Try.ntmps61
  go_wp2_with fail
  refine (cmp_i64 _ _ _).mono ?_
  rintro e w' ⟨rfl, rfl⟩
  go_wp2
  go_ret
  exact ⟨rfl, rfl⟩

set_option maxHeartbeats 1000000 in
theorem cl3 (hA : TT w0 A k s n p c ts W) (hB : TT w1 B k' s' n' p' c' us W) :
    Calls Try.prog 63 #[.pointer (some ⟨A, 0, none⟩), .pointer (some ⟨B, 0, none⟩)] W fun e w' => e = .returned (.int .i64 (ci ts.len us.len)) ∧ w' = W := by
  have a0 := hA.c0
  have a1 := hA.c1
  have a2 := hA.c2
  have a3 := hA.c3
  have b0 := hB.c0
  have b1 := hB.c1
  have b2 := hB.c2
  have b3 := hB.c3
  go_enter Try.func63, Try.ntmps63
  go_wp2_with fail
  refine (cmp_int _ _ _).mono ?_
  rintro e w' ⟨rfl, rfl⟩
  go_wp2
  go_ret
  exact ⟨rfl, rfl⟩

set_option maxHeartbeats 1000000 in
theorem cl4 (hA : TT w0 A k s n p c ts W) (hB : TT w1 B k' s' n' p' c' us W) :
    Calls Try.prog 65 #[.pointer (some ⟨A, 0, none⟩), .pointer (some ⟨B, 0, none⟩)] W fun e w' => e = .returned (.int .i64 (cb s s')) ∧ w' = W := by
  have a0 := hA.c0
  have a1 := hA.c1
  have a2 := hA.c2
  have a3 := hA.c3
  have b0 := hB.c0
  have b1 := hB.c1
  have b2 := hB.c2
  have b3 := hB.c3
  go_enter Try.func65, Try.ntmps65
  go_wp2_with fail
  refine (cmp_str _ _ _).mono ?_
  rintro e w' ⟨rfl, rfl⟩
  go_wp2
  go_ret
  exact ⟨rfl, rfl⟩

set_option maxHeartbeats 1000000 in
theorem cl5 {r : Int} (hargs : ts.len = us.len → ∀ (W : World) (p p' : Option Addr) (c c' : Nat), Ts.At W p ts → Ts.At W p' us → Calls Try.prog 68 #[.slice p ts.len c, .slice p' us.len c'] W fun e w' => e = .returned (.int .i64 r) ∧ Below W.heap.size W w') (hl : ts.len = us.len) (hA : TT w0 A k s n p c ts W) (hB : TT w1 B k' s' n' p' c' us W) :
    Calls Try.prog 67 #[.pointer (some ⟨A, 0, none⟩), .pointer (some ⟨B, 0, none⟩)] W fun e w' => e = .returned (.int .i64 r) ∧ Below W.heap.size W w' := by
  have a3 := hA.c3
  have b3 := hB.c3
  have HH := Lib.hid (hargs hl)
  have HA := Lib.hid hA.tat
  have HB := Lib.hid hB.tat
  clear hargs hl
  go_enter Try.func67, Try.ntmps67
  go_wp2_with fail
  refine (HH.out _ _ _ _ _ HA.out HB.out).mono ?_
  rintro e w' ⟨rfl, hB⟩
  have BB := Lib.hid hB
  clear hB
  go_wp2
  go_ret
  exact ⟨rfl, BB.out⟩

set_option maxRecDepth 100000 in
set_option maxHeartbeats 4000000 in
theorem first_any {r : Int} {F : Nat} (hargs : ts.len = us.len → ∀ (W : World) (p p' : Option Addr) (c c' : Nat), Ts.At W p ts → Ts.At W p' us → Calls Try.prog 68 #[.slice p ts.len c, .slice p' us.len c'] W fun e w' => e = .returned (.int .i64 r) ∧ Below W.heap.size W w') (hA : TT w0 A k s n p c ts W) (hB : TT w1 B k' s' n' p' c' us W)
    (f1 : W.cell? ⟨F, 0, none⟩ = some (.func (.func 59) #[] #[.pointer (some ⟨A, 0, none⟩), .pointer (some ⟨B, 0, none⟩)])) (f2 : W.cell? ⟨F, 1, none⟩ = some (.func (.func 61) #[] #[.pointer (some ⟨A, 0, none⟩), .pointer (some ⟨B, 0, none⟩)])) (f3 : W.cell? ⟨F, 2, none⟩ = some (.func (.func 63) #[] #[.pointer (some ⟨A, 0, none⟩), .pointer (some ⟨B, 0, none⟩)])) (f4 : W.cell? ⟨F, 3, none⟩ = some (.func (.func 65) #[] #[.pointer (some ⟨A, 0, none⟩), .pointer (some ⟨B, 0, none⟩)])) (f5 : W.cell? ⟨F, 4, none⟩ = some (.func (.func 67) #[] #[.pointer (some ⟨A, 0, none⟩), .pointer (some ⟨B, 0, none⟩)])) :
    Calls Try.prog 58 #[.slice (some ⟨F, 0, none⟩) 5 5] W fun e w' => e = .returned (.int .i64 (cmpT k k' s s' n n' ts us r)) ∧ Below W.heap.size W w' := by
  have HH := Lib.hid hargs
  have TA := Lib.hid hA
  have TB := Lib.hid hB
  have hF := World.block_lt_of_cell? _ _ f1
  clear hargs hA hB
  go_enter Try.func58, Try.ntmps58
  go_wp2_with fail
  go_loopw [8] (fun s8 wr => ∃ (j : Nat), j ≤ 5 ∧ s8 = .int .i64 j ∧ Hid (Below W.heap.size W wr) ∧ Hid ((1 ≤ j → ci k k' = 0) ∧ (2 ≤ j → ci n n' = 0) ∧ (3 ≤ j → ci ts.len us.len = 0) ∧ (4 ≤ j → cb s s' = 0) ∧ (5 ≤ j → r = 0))) (fun i _ => 5 - (intOf i).toNat)
  case atStart => exact ⟨0, by omega, rfl, Lib.hid (Below.refl _ _), Lib.hid ⟨by omega, by omega, by omega, by omega, by omega⟩⟩
  case round =>
    rename_i wr _
    obtain ⟨j, hj, rfl, BR, ZZ⟩ := hrel
    have hfr : ∀ y, wr.cell? ⟨F, y, none⟩ = W.cell? ⟨F, y, none⟩ := fun y => (stays BR.out).1 _ _ hF
    have FR := Lib.hid hfr
    clear hfr
    obtain rfl | rfl | rfl | rfl | rfl | rfl : j = 0 ∨ j = 1 ∨ j = 2 ∨ j = 3 ∨ j = 4 ∨ j = 5 := by omega
    · have g := (FR.out 0).trans f1
      have TA' := Lib.hid (TA.out.below BR.out)
      have TB' := Lib.hid (TB.out.below BR.out)
      clear f1 f2 f3 f4 f5
      go_wp2_with fail
      refine (cl1 TA'.out TB'.out).mono ?_
      rintro e w' ⟨rfl, rfl⟩
      obtain ⟨x, hx⟩ : ∃ x, ci k k' = x := ⟨_, rfl⟩
      have HX := Lib.hid hx
      rw [hx]
      clear hx g
      by_cases hz : (x != 0) = true
      · go_wp2
        replace hz := Lib.hid hz
        go_ret
        refine ⟨?_, BR.out⟩
        have e : cmpT k k' s s' n n' ts us r = x := by
          unfold cmpT or0
          rw [if_neg (by rw [HX.out]; simpa using hz.out)]; exact HX.out
        rw [e]
        first | done | rfl
      · rw [Bool.not_eq_true] at hz
        have h0 : Hid (x = 0) := Lib.hid (by simpa using hz)
        go_wp2
        go_roundw
        case rel =>
          have hx0 : ci k k' = 0 := by rw [HX.out, h0.out]
          exact ⟨1, by omega, by go_num, BR, Lib.hid ⟨fun _ => hx0, by omega, by omega, by omega, by omega⟩⟩
        case measure => simp [intOf]
    · have g := (FR.out 1).trans f2
      have TA' := Lib.hid (TA.out.below BR.out)
      have TB' := Lib.hid (TB.out.below BR.out)
      clear f1 f2 f3 f4 f5
      go_wp2_with fail
      refine (cl2 TA'.out TB'.out).mono ?_
      rintro e w' ⟨rfl, rfl⟩
      obtain ⟨x, hx⟩ : ∃ x, ci n n' = x := ⟨_, rfl⟩
      have HX := Lib.hid hx
      rw [hx]
      clear hx g
      by_cases hz : (x != 0) = true
      · go_wp2
        replace hz := Lib.hid hz
        go_ret
        refine ⟨?_, BR.out⟩
        have e : cmpT k k' s s' n n' ts us r = x := by
          unfold cmpT or0
          rw [if_pos (ZZ.out.1 (by omega))]; rw [if_neg (by rw [HX.out]; simpa using hz.out)]; exact HX.out
        rw [e]
        first | done | rfl
      · rw [Bool.not_eq_true] at hz
        have h0 : Hid (x = 0) := Lib.hid (by simpa using hz)
        go_wp2
        go_roundw
        case rel =>
          have hx0 : ci n n' = 0 := by rw [HX.out, h0.out]
          exact ⟨2, by omega, by go_num, BR, Lib.hid ⟨fun _ => ZZ.out.1 (by omega), fun _ => hx0, by omega, by omega, by omega⟩⟩
        case measure => simp [intOf]
    · have g := (FR.out 2).trans f3
      have TA' := Lib.hid (TA.out.below BR.out)
      have TB' := Lib.hid (TB.out.below BR.out)
      clear f1 f2 f3 f4 f5
      go_wp2_with fail
      refine (cl3 TA'.out TB'.out).mono ?_
      rintro e w' ⟨rfl, rfl⟩
      obtain ⟨x, hx⟩ : ∃ x, ci ts.len us.len = x := ⟨_, rfl⟩
      have HX := Lib.hid hx
      rw [hx]
      clear hx g
      by_cases hz : (x != 0) = true
      · go_wp2
        replace hz := Lib.hid hz
        go_ret
        refine ⟨?_, BR.out⟩
        have e : cmpT k k' s s' n n' ts us r = x := by
          unfold cmpT or0
          rw [if_pos (ZZ.out.1 (by omega))]; rw [if_pos (ZZ.out.2.1 (by omega))]; rw [if_neg (by rw [HX.out]; simpa using hz.out)]; exact HX.out
        rw [e]
        first | done | rfl
      · rw [Bool.not_eq_true] at hz
        have h0 : Hid (x = 0) := Lib.hid (by simpa using hz)
        go_wp2
        go_roundw
        case rel =>
          have hx0 : ci ts.len us.len = 0 := by rw [HX.out, h0.out]
          exact ⟨3, by omega, by go_num, BR, Lib.hid ⟨fun _ => ZZ.out.1 (by omega), fun _ => ZZ.out.2.1 (by omega), fun _ => hx0, by omega, by omega⟩⟩
        case measure => simp [intOf]
    · have g := (FR.out 3).trans f4
      have TA' := Lib.hid (TA.out.below BR.out)
      have TB' := Lib.hid (TB.out.below BR.out)
      clear f1 f2 f3 f4 f5
      go_wp2_with fail
      refine (cl4 TA'.out TB'.out).mono ?_
      rintro e w' ⟨rfl, rfl⟩
      obtain ⟨x, hx⟩ : ∃ x, cb s s' = x := ⟨_, rfl⟩
      have HX := Lib.hid hx
      rw [hx]
      clear hx g
      by_cases hz : (x != 0) = true
      · go_wp2
        replace hz := Lib.hid hz
        go_ret
        refine ⟨?_, BR.out⟩
        have e : cmpT k k' s s' n n' ts us r = x := by
          unfold cmpT or0
          rw [if_pos (ZZ.out.1 (by omega))]; rw [if_pos (ZZ.out.2.1 (by omega))]; rw [if_pos (ZZ.out.2.2.1 (by omega))]; rw [if_neg (by rw [HX.out]; simpa using hz.out)]; exact HX.out
        rw [e]
        first | done | rfl
      · rw [Bool.not_eq_true] at hz
        have h0 : Hid (x = 0) := Lib.hid (by simpa using hz)
        go_wp2
        go_roundw
        case rel =>
          have hx0 : cb s s' = 0 := by rw [HX.out, h0.out]
          exact ⟨4, by omega, by go_num, BR, Lib.hid ⟨fun _ => ZZ.out.1 (by omega), fun _ => ZZ.out.2.1 (by omega), fun _ => ZZ.out.2.2.1 (by omega), fun _ => hx0, by omega⟩⟩
        case measure => simp [intOf]
    · have g := (FR.out 4).trans f5
      have TA' := Lib.hid (TA.out.below BR.out)
      have TB' := Lib.hid (TB.out.below BR.out)
      clear f1 f2 f3 f4 f5
      go_wp2_with fail
      refine (cl5 HH.out (ci_zero (ZZ.out.2.2.1 (by omega))) TA'.out TB'.out).mono ?_
      rintro e w' ⟨rfl, hB⟩
      replace BR := Lib.hid (BR.out.trans (hB.mono BR.out.size))
      clear hB
      obtain ⟨x, hx⟩ : ∃ x, r = x := ⟨_, rfl⟩
      have HX := Lib.hid hx
      rw [hx]
      clear hx g
      by_cases hz : (x != 0) = true
      · go_wp2
        replace hz := Lib.hid hz
        go_ret
        refine ⟨?_, BR.out⟩
        have e : cmpT k k' s s' n n' ts us r = x := by
          unfold cmpT or0
          rw [if_pos (ZZ.out.1 (by omega))]; rw [if_pos (ZZ.out.2.1 (by omega))]; rw [if_pos (ZZ.out.2.2.1 (by omega))]; rw [if_pos (ZZ.out.2.2.2.1 (by omega))]; exact HX.out
        rw [e]
        first | done | rfl
      · rw [Bool.not_eq_true] at hz
        have h0 : Hid (x = 0) := Lib.hid (by simpa using hz)
        go_wp2
        go_roundw
        case rel =>
          have hx0 : r = 0 := by rw [HX.out, h0.out]
          exact ⟨5, by omega, by go_num, BR, Lib.hid ⟨fun _ => ZZ.out.1 (by omega), fun _ => ZZ.out.2.1 (by omega), fun _ => ZZ.out.2.2.1 (by omega), fun _ => ZZ.out.2.2.2.1 (by omega), fun _ => hx0⟩⟩
        case measure => simp [intOf]
    · clear f1 f2 f3 f4 f5
      go_wp2
      go_ret
      refine ⟨?_, BR.out⟩
      have e : cmpT k k' s s' n n' ts us r = 0 := by
        unfold cmpT or0
        rw [if_pos (ZZ.out.1 (by omega)), if_pos (ZZ.out.2.1 (by omega)), if_pos (ZZ.out.2.2.1 (by omega)), if_pos (ZZ.out.2.2.2.1 (by omega))]
        exact ZZ.out.2.2.2.2 (by omega)
      rw [e]
      first | done | rfl

set_option maxRecDepth 100000 in
set_option maxHeartbeats 4000000 in
theorem compare_of {r : Int} (hargs : ts.len = us.len → ∀ (W : World) (p p' : Option Addr) (c c' : Nat), Ts.At W p ts → Ts.At W p' us → Calls Try.prog 68 #[.slice p ts.len c, .slice p' us.len c'] W fun e w' => e = .returned (.int .i64 r) ∧ Below W.heap.size W w') (hats : Ts.At W p ts) (hatu : Ts.At W p' us) :
    Calls Try.prog 34 #[.agg #[.int .u8 k, .string s, .int .i64 n, .slice p ts.len c], .agg #[.int .u8 k', .string s', .int .i64 n', .slice p' us.len c']] W fun e w' => e = .returned (.int .i64 (cmpT k k' s s' n n' ts us r)) ∧ Below W.heap.size W w' := by
  have HH := Lib.hid hargs
  have HS := Lib.hid hats
  have HU := Lib.hid hatu
  clear hargs hats hatu
  go_enter Try.func34, Try.ntmps34
  go_wp2_with fail
  obtain ⟨W2, hW2, hs2, hB2, hTa, hTb⟩ := box2 W #[Value.int IntKind.u8 k, Value.string s, Value.int IntKind.i64 n, Value.slice p ts.len c] #[Value.int IntKind.u8 k', Value.string s', Value.int IntKind.i64 n', Value.slice p' us.len c'] 24 24
  rw [← hW2]
  have TA : TT W W.heap.size k s n p c ts W2 := ⟨hB2, by omega, hTa 0 _ rfl, hTa 1 _ rfl, hTa 2 _ rfl, hTa 3 _ rfl, HS.out.below hB2⟩
  have TB : TT W (W.heap.size + 1) k' s' n' p' c' us W2 := ⟨hB2, by omega, hTb 0 _ rfl, hTb 1 _ rfl, hTb 2 _ rfl, hTb 3 _ rfl, HU.out.below hB2⟩
  obtain ⟨W3, hW3, hs3, hB3, hc3⟩ := box1 W2 #[.func (.func 59) #[] #[.pointer (some ⟨W.heap.size, 0, none⟩), .pointer (some ⟨W.heap.size + 1, 0, none⟩)], .func (.func 61) #[] #[.pointer (some ⟨W.heap.size, 0, none⟩), .pointer (some ⟨W.heap.size + 1, 0, none⟩)], .func (.func 63) #[] #[.pointer (some ⟨W.heap.size, 0, none⟩), .pointer (some ⟨W.heap.size + 1, 0, none⟩)], .func (.func 65) #[] #[.pointer (some ⟨W.heap.size, 0, none⟩), .pointer (some ⟨W.heap.size + 1, 0, none⟩)], .func (.func 67) #[] #[.pointer (some ⟨W.heap.size, 0, none⟩), .pointer (some ⟨W.heap.size + 1, 0, none⟩)]] 54
  rw [← hW3]
  have e3 : W.heap.size + 1 + 1 = W2.heap.size := by omega
  rw [e3]
  have Z := Lib.hid (And.intro hW2 hW3)
  have BB := Lib.hid (hB2.trans (hB3.mono (by omega)))
  replace TA := TA.below hB3
  replace TB := TB.below hB3
  clear hW2 hW3 hTa hTb hB2 hB3
  refine (first_any HH.out TA TB (hc3 0 _ rfl) (hc3 1 _ rfl) (hc3 2 _ rfl) (hc3 3 _ rfl) (hc3 4 _ rfl)).mono ?_
  rintro e w' ⟨rfl, hB⟩
  clear hc3
  dsimp only
  go_wp2
  go_ret
  exact ⟨rfl, BB.out.trans (hB.mono BB.out.size)⟩
end

end Go.Proofs.Ytlhclblekpngnaa
