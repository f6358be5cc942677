import Derived.Test.YtnmhnaanpjlniaaGreatXa
import Derived.Test.YtnmhnaanpjlniaaGreatTw
import Derived.Test.YtnmhnaanpjlniaaGreatTs
import Derived.Test.YtnmhnaanpjlniaaGreatTj
import Derived.BigQuiet
/-
  Layer 2: Compare and compareArgs. (Written by gen_xb.py.)
-/
namespace Go.Proofs.YtnmhnaanpjlniaaGreat
open Go.RowKit

def or0 (a b : Int) : Int := if a = 0 then b else a

/-- how two heads stand, and behind them what their args say -/
def cmpT (k k' : Int) (s s' : ByteArray) (n n' : Int) (ts us : Ts) (r : Int) : Int := or0 (ci k k') (or0 (ci n n') (or0 (ci ts.len us.len) (or0 (cb s s') r)))

/-- how two lists stand, by the first pair that is not alike -/
def cmpL : Ts → Ts → Int
  | .cons k s n _ _ ks r, .cons k' s' n' _ _ ks' r' => or0 (cmpT k k' s s' n n' ks ks' (cmpL ks ks')) (cmpL r r')
  | _, _ => 0

theorem ci_zero {a b : Nat} (h : ci a b = 0) : a = b := by
  unfold ci at h
  split at h
  · omega
  · split at h
    · omega
    · omega

section
variable {w0 w1 : World} {A B : Nat} {k k' : Int} {s s' : ByteArray} {n n' : Int} {p p' : Option Addr} {c c' : Nat} {ts us : Ts} {W : World}

set_option maxHeartbeats 1000000 in
theorem cl1 (hA : TT w0 A k s n p c ts W) (hB : TT w1 B k' s' n' p' c' us W) :
    Calls Tryz.prog 46 #[.pointer (some ⟨A, 0, none⟩), .pointer (some ⟨B, 0, none⟩)] W fun e w' => e = .returned (.int .i64 (ci k k')) ∧ w' = W := by
  have a0 := hA.c0
  have a1 := hA.c1
  have a2 := hA.c2
  have a3 := hA.c3
  have b0 := hB.c0
  have b1 := hB.c1
  have b2 := hB.c2
  have b3 := hB.c3
  go_enter Tryz.func46, Tryz.ntmps46
  go_wp2_with fail
  refine (cmp_u8 _ _ _).mono ?_
  rintro e w' ⟨rfl, rfl⟩
  go_wp2
  go_ret
  exact ⟨rfl, rfl⟩

set_option maxHeartbeats 1000000 in
theorem cl2 (hA : TT w0 A k s n p c ts W) (hB : TT w1 B k' s' n' p' c' us W) :
    Calls Tryz.prog 48 #[.pointer (some ⟨A, 0, none⟩), .pointer (some ⟨B, 0, none⟩)] W fun e w' => e = .returned (.int .i64 (ci n n')) ∧ w' = W := by
  have a0 := hA.c0
  have a1 := hA.c1
  have a2 := hA.c2
  have a3 := hA.c3
  have b0 := hB.c0
  have b1 := hB.c1
  have b2 := hB.c2
  have b3 := hB.c3
  go_enter Tryz.func48, Tryz.ntmps48
  go_wp2_with fail
  refine (cmp_i64 _ _ _).mono ?_
  rintro e w' ⟨rfl, rfl⟩
  go_wp2
  go_ret
  exact ⟨rfl, rfl⟩

set_option maxHeartbeats 1000000 in
theorem cl3 (hA : TT w0 A k s n p c ts W) (hB : TT w1 B k' s' n' p' c' us W) :
    Calls Tryz.prog 50 #[.pointer (some ⟨A, 0, none⟩), .pointer (some ⟨B, 0, none⟩)] W fun e w' => e = .returned (.int .i64 (ci ts.len us.len)) ∧ w' = W := by
  have a0 := hA.c0
  have a1 := hA.c1
  have a2 := hA.c2
  have a3 := hA.c3
  have b0 := hB.c0
  have b1 := hB.c1
  have b2 := hB.c2
  have b3 := hB.c3
  go_enter Tryz.func50, Tryz.ntmps50
  go_wp2_with fail
  refine (cmp_int _ _ _).mono ?_
  rintro e w' ⟨rfl, rfl⟩
  go_wp2
  go_ret
  exact ⟨rfl, rfl⟩

set_option maxHeartbeats 1000000 in
theorem cl4 (hA : TT w0 A k s n p c ts W) (hB : TT w1 B k' s' n' p' c' us W) :
    Calls Tryz.prog 52 #[.pointer (some ⟨A, 0, none⟩), .pointer (some ⟨B, 0, none⟩)] W fun e w' => e = .returned (.int .i64 (cb s s')) ∧ w' = W := by
  have a0 := hA.c0
  have a1 := hA.c1
  have a2 := hA.c2
  have a3 := hA.c3
  have b0 := hB.c0
  have b1 := hB.c1
  have b2 := hB.c2
  have b3 := hB.c3
  go_enter Tryz.func52, Tryz.ntmps52
  go_wp2_with fail
  refine (cmp_str _ _ _).mono ?_
  rintro e w' ⟨rfl, rfl⟩
  go_wp2
  go_ret
  exact ⟨rfl, rfl⟩

set_option maxHeartbeats 1000000 in
theorem cl5 {r : Int} (hargs : ts.len = us.len → ∀ (W : World) (p p' : Option Addr) (c c' : Nat), Ts.At W p ts → Ts.At W p' us → Calls Tryz.prog 55 #[.slice p ts.len c, .slice p' us.len c'] W fun e w' => e = .returned (.int .i64 r) ∧ Below W.heap.size W w') (hl : ts.len = us.len) (hA : TT w0 A k s n p c ts W) (hB : TT w1 B k' s' n' p' c' us W) :
    Calls Tryz.prog 54 #[.pointer (some ⟨A, 0, none⟩), .pointer (some ⟨B, 0, none⟩)] W fun e w' => e = .returned (.int .i64 r) ∧ Below W.heap.size W w' := by
  have a3 := hA.c3
  have b3 := hB.c3
  have HH := Lib.hid (hargs hl)
  have HA := Lib.hid hA.tat
  have HB := Lib.hid hB.tat
  clear hargs hl
  go_enter Tryz.func54, Tryz.ntmps54
  go_wp2_with fail
  refine (HH.out _ _ _ _ _ HA.out HB.out).mono ?_
  rintro e w' ⟨rfl, hB⟩
  have BB := Lib.hid hB
  clear hB
  go_wp2
  go_ret
  exact ⟨rfl, BB.out⟩

set_option maxRecDepth 100000 in
set_option maxHeartbeats 4000000 in
theorem first_any {r : Int} {F : Nat} (hargs : ts.len = us.len → ∀ (W : World) (p p' : Option Addr) (c c' : Nat), Ts.At W p ts → Ts.At W p' us → Calls Tryz.prog 55 #[.slice p ts.len c, .slice p' us.len c'] W fun e w' => e = .returned (.int .i64 r) ∧ Below W.heap.size W w') (hA : TT w0 A k s n p c ts W) (hB : TT w1 B k' s' n' p' c' us W)
    (f1 : W.cell? ⟨F, 0, none⟩ = some (.func (.func 46) #[] #[.pointer (some ⟨A, 0, none⟩), .pointer (some ⟨B, 0, none⟩)])) (f2 : W.cell? ⟨F, 1, none⟩ = some (.func (.func 48) #[] #[.pointer (some ⟨A, 0, none⟩), .pointer (some ⟨B, 0, none⟩)])) (f3 : W.cell? ⟨F, 2, none⟩ = some (.func (.func 50) #[] #[.pointer (some ⟨A, 0, none⟩), .pointer (some ⟨B, 0, none⟩)])) (f4 : W.cell? ⟨F, 3, none⟩ = some (.func (.func 52) #[] #[.pointer (some ⟨A, 0, none⟩), .pointer (some ⟨B, 0, none⟩)])) (f5 : W.cell? ⟨F, 4, none⟩ = some (.func (.func 54) #[] #[.pointer (some ⟨A, 0, none⟩), .pointer (some ⟨B, 0, none⟩)])) :
    Calls Tryz.prog 45 #[.slice (some ⟨F, 0, none⟩) 5 5] W fun e w' => e = .returned (.int .i64 (cmpT k k' s s' n n' ts us r)) ∧ Below W.heap.size W w' := by
  have HH := Lib.hid hargs
  have TA := Lib.hid hA
  have TB := Lib.hid hB
  have hF := World.block_lt_of_cell? _ _ f1
  clear hargs hA hB
  go_enter Tryz.func45, Tryz.ntmps45
  go_wp2_with fail
  go_loopw [8] (fun s8 wr => ∃ (j : Nat), j ≤ 5 ∧ s8 = .int .i64 j ∧ Hid (Below W.heap.size W wr) ∧ Hid ((1 ≤ j → ci k k' = 0) ∧ (2 ≤ j → ci n n' = 0) ∧ (3 ≤ j → ci ts.len us.len = 0) ∧ (4 ≤ j → cb s s' = 0) ∧ (5 ≤ j → r = 0))) (fun i _ => 5 - (intOf i).toNat)
  case atStart => exact ⟨0, by omega, rfl, Lib.hid (Below.refl _ _), Lib.hid ⟨by omega, by omega, by omega, by omega, by omega⟩⟩
  case round =>
    rename_i wr _
    obtain ⟨j, hj, rfl, BR, ZZ⟩ := hrel
    have hfr : ∀ y, wr.cell? ⟨F, y, none⟩ = W.cell? ⟨F, y, none⟩ := fun y => (stays BR.out).1 _ _ hF
    have FR := Lib.hid hfr
    clear hfr
    obtain rfl | rfl | rfl | rfl | rfl | rfl : j = 0 ∨ j = 1 ∨ j = 2 ∨ j = 3 ∨ j = 4 ∨ j = 5 := by omega
    · have g := (FR.out 0).trans f1
      have TA' := Lib.hid (TA.out.below BR.out)
      have TB' := Lib.hid (TB.out.below BR.out)
      clear f1 f2 f3 f4 f5
      go_wp2_with fail
      refine (cl1 TA'.out TB'.out).mono ?_
      rintro e w' ⟨rfl, rfl⟩
      obtain ⟨x, hx⟩ : ∃ x, ci k k' = x := ⟨_, rfl⟩
      have HX := Lib.hid hx
      rw [hx]
      clear hx g
      by_cases hz : (x != 0) = true
      · go_wp2
        replace hz := Lib.hid hz
        go_ret
        refine ⟨?_, BR.out⟩
        have e : cmpT k k' s s' n n' ts us r = x := by
          unfold cmpT or0
          rw [if_neg (by rw [HX.out]; simpa using hz.out)]; exact HX.out
        rw [e]
        first | done | rfl
      · rw [Bool.not_eq_true] at hz
        have h0 : Hid (x = 0) := Lib.hid (by simpa using hz)
        go_wp2
        go_roundw
        case rel =>
          have hx0 : ci k k' = 0 := by rw [HX.out, h0.out]
          exact ⟨1, by omega, by go_num, BR, Lib.hid ⟨fun _ => hx0, by omega, by omega, by omega, by omega⟩⟩
        case measure => simp [intOf]
    · have g := (FR.out 1).trans f2
      have TA' := Lib.hid (TA.out.below BR.out)
      have TB' := Lib.hid (TB.out.below BR.out)
      clear f1 f2 f3 f4 f5
      go_wp2_with fail
      refine (cl2 TA'.out TB'.out).mono ?_
      rintro e w' ⟨rfl, rfl⟩
      obtain ⟨x, hx⟩ : ∃ x, ci n n' = x := ⟨_, rfl⟩
      have HX := Lib.hid hx
      rw [hx]
      clear hx g
      by_cases hz : (x != 0) = true
      · go_wp2
        replace hz := Lib.hid hz
        go_ret
        refine ⟨?_, BR.out⟩
        have e : cmpT k k' s s' n n' ts us r = x := by
          unfold cmpT or0
          rw [if_pos (ZZ.out.1 (by omega))]; rw [if_neg (by rw [HX.out]; simpa using hz.out)]; exact HX.out
        rw [e]
        first | done | rfl
      · rw [Bool.not_eq_true] at hz
        have h0 : Hid (x = 0) := Lib.hid (by simpa using hz)
        go_wp2
        go_roundw
        case rel =>
          have hx0 : ci n n' = 0 := by rw [HX.out, h0.out]
          exact ⟨2, by omega, by go_num, BR, Lib.hid ⟨fun _ => ZZ.out.1 (by omega), fun _ => hx0, by omega, by omega, by omega⟩⟩
        case measure => simp [intOf]
    · have g := (FR.out 2).trans f3
      have TA' := Lib.hid (TA.out.below BR.out)
      have TB' := Lib.hid (TB.out.below BR.out)
      clear f1 f2 f3 f4 f5
      go_wp2_with fail
      refine (cl3 TA'.out TB'.out).mono ?_
      rintro e w' ⟨rfl, rfl⟩
      obtain ⟨x, hx⟩ : ∃ x, ci ts.len us.len = x := ⟨_, rfl⟩
      have HX := Lib.hid hx
      rw [hx]
      clear hx g
      by_cases hz : (x != 0) = true
      · go_wp2
        replace hz := Lib.hid hz
        go_ret
        refine ⟨?_, BR.out⟩
        have e : cmpT k k' s s' n n' ts us r = x := by
          unfold cmpT or0
          rw [if_pos (ZZ.out.1 (by omega))]; rw [if_pos (ZZ.out.2.1 (by omega))]; rw [if_neg (by rw [HX.out]; simpa using hz.out)]; exact HX.out
        rw [e]
        first | done | rfl
      · rw [Bool.not_eq_true] at hz
        have h0 : Hid (x = 0) := Lib.hid (by simpa using hz)
        go_wp2
        go_roundw
        case rel =>
          have hx0 : ci ts.len us.len = 0 := by rw [HX.out, h0.out]
          exact ⟨3, by omega, by go_num, BR, Lib.hid ⟨fun _ => ZZ.out.1 (by omega), fun _ => ZZ.out.2.1 (by omega), fun _ => hx0, by omega, by omega⟩⟩
        case measure => simp [intOf]
    · have g := (FR.out 3).trans f4
      have TA' := Lib.hid (TA.out.below BR.out)
      have TB' := Lib.hid (TB.out.below BR.out)
      clear f1 f2 f3 f4 f5
      go_wp2_with fail
      refine (cl4 TA'.out TB'.out).mono ?_
      rintro e w' ⟨rfl, rfl⟩
      obtain ⟨x, hx⟩ : ∃ x, cb s s' = x := ⟨_, rfl⟩
      have HX := Lib.hid hx
      rw [hx]
      clear hx g
      by_cases hz : (x != 0) = true
      · go_wp2
        replace hz := Lib.hid hz
        go_ret
        refine ⟨?_, BR.out⟩
        have e : cmpT k k' s s' n n' ts us r = x := by
          unfold cmpT or0
          rw [if_pos (ZZ.out.1 (by omega))]; rw [if_pos (ZZ.out.2.1 (by omega))]; rw [if_pos (ZZ.out.2.2.1 (by omega))]; rw [if_neg (by rw [HX.out]; simpa using hz.out)]; exact HX.out
        rw [e]
        first | done | rfl
      · rw [Bool.not_eq_true] at hz
        have h0 : Hid (x = 0) := Lib.hid (by simpa using hz)
        go_wp2
        go_roundw
        case rel =>
          have hx0 : cb s s' = 0 := by rw [HX.out, h0.out]
          exact ⟨4, by omega, by go_num, BR, Lib.hid ⟨fun _ => ZZ.out.1 (by omega), fun _ => ZZ.out.2.1 (by omega), fun _ => ZZ.out.2.2.1 (by omega), fun _ => hx0, by omega⟩⟩
        case measure => simp [intOf]
    · have g := (FR.out 4).trans f5
      have TA' := Lib.hid (TA.out.below BR.out)
      have TB' := Lib.hid (TB.out.below BR.out)
      clear f1 f2 f3 f4 f5
      go_wp2_with fail
      refine (cl5 HH.out (ci_zero (ZZ.out.2.2.1 (by omega))) TA'.out TB'.out).mono ?_
      rintro e w' ⟨rfl, hB⟩
      replace BR := Lib.hid (BR.out.trans (hB.mono BR.out.size))
      clear hB
      obtain ⟨x, hx⟩ : ∃ x, r = x := ⟨_, rfl⟩
      have HX := Lib.hid hx
      rw [hx]
      clear hx g
      by_cases hz : (x != 0) = true
      · go_wp2
        replace hz := Lib.hid hz
        go_ret
        refine ⟨?_, BR.out⟩
        have e : cmpT k k' s s' n n' ts us r = x := by
          unfold cmpT or0
          rw [if_pos (ZZ.out.1 (by omega))]; rw [if_pos (ZZ.out.2.1 (by omega))]; rw [if_pos (ZZ.out.2.2.1 (by omega))]; rw [if_pos (ZZ.out.2.2.2.1 (by omega))]; exact HX.out
        rw [e]
        first | done | rfl
      · rw [Bool.not_eq_true] at hz
        have h0 : Hid (x = 0) := Lib.hid (by simpa using hz)
        go_wp2
        go_roundw
        case rel =>
          have hx0 : r = 0 := by rw [HX.out, h0.out]
          exact ⟨5, by omega, by go_num, BR, Lib.hid ⟨fun _ => ZZ.out.1 (by omega), fun _ => ZZ.out.2.1 (by omega), fun _ => ZZ.out.2.2.1 (by omega), fun _ => ZZ.out.2.2.2.1 (by omega), fun _ => hx0⟩⟩
        case measure => simp [intOf]
    · clear f1 f2 f3 f4 f5
      go_wp2
      go_ret
      refine ⟨?_, BR.out⟩
      have e : cmpT k k' s s' n n' ts us r = 0 := by
        unfold cmpT or0
        rw [if_pos (ZZ.out.1 (by omega)), if_pos (ZZ.out.2.1 (by omega)), if_pos (ZZ.out.2.2.1 (by omega)), if_pos (ZZ.out.2.2.2.1 (by omega))]
        exact ZZ.out.2.2.2.2 (by omega)
      rw [e]
      first | done | rfl

set_option maxRecDepth 100000 in
set_option maxHeartbeats 4000000 in
theorem compare_of {r : Int} (hargs : ts.len = us.len → ∀ (W : World) (p p' : Option Addr) (c c' : Nat), Ts.At W p ts → Ts.At W p' us → Calls Tryz.prog 55 #[.slice p ts.len c, .slice p' us.len c'] W fun e w' => e = .returned (.int .i64 r) ∧ Below W.heap.size W w') (hats : Ts.At W p ts) (hatu : Ts.At W p' us) :
    Calls Tryz.prog 21 #[.agg #[.int .u8 k, .string s, .int .i64 n, .slice p ts.len c], .agg #[.int .u8 k', .string s', .int .i64 n', .slice p' us.len c']] W fun e w' => e = .returned (.int .i64 (cmpT k k' s s' n n' ts us r)) ∧ Below W.heap.size W w' := by
  have HH := Lib.hid hargs
  have HS := Lib.hid hats
  have HU := Lib.hid hatu
  clear hargs hats hatu
  go_enter Tryz.func21, Tryz.ntmps21
  go_wp2_with fail
  obtain ⟨W2, hW2, hs2, hB2, hTa, hTb⟩ := box2 W #[Value.int IntKind.u8 k, Value.string s, Value.int IntKind.i64 n, Value.slice p ts.len c] #[Value.int IntKind.u8 k', Value.string s', Value.int IntKind.i64 n', Value.slice p' us.len c'] 25 25
  rw [← hW2]
  have TA : TT W W.heap.size k s n p c ts W2 := ⟨hB2, by omega, hTa 0 _ rfl, hTa 1 _ rfl, hTa 2 _ rfl, hTa 3 _ rfl, HS.out.below hB2⟩
  have TB : TT W (W.heap.size + 1) k' s' n' p' c' us W2 := ⟨hB2, by omega, hTb 0 _ rfl, hTb 1 _ rfl, hTb 2 _ rfl, hTb 3 _ rfl, HU.out.below hB2⟩
  obtain ⟨W3, hW3, hs3, hB3, hc3⟩ := box1 W2 #[.func (.func 46) #[] #[.pointer (some ⟨W.heap.size, 0, none⟩), .pointer (some ⟨W.heap.size + 1, 0, none⟩)], .func (.func 48) #[] #[.pointer (some ⟨W.heap.size, 0, none⟩), .pointer (some ⟨W.heap.size + 1, 0, none⟩)], .func (.func 50) #[] #[.pointer (some ⟨W.heap.size, 0, none⟩), .pointer (some ⟨W.heap.size + 1, 0, none⟩)], .func (.func 52) #[] #[.pointer (some ⟨W.heap.size, 0, none⟩), .pointer (some ⟨W.heap.size + 1, 0, none⟩)], .func (.func 54) #[] #[.pointer (some ⟨W.heap.size, 0, none⟩), .pointer (some ⟨W.heap.size + 1, 0, none⟩)]] 49
  rw [← hW3]
  have e3 : W.heap.size + 1 + 1 = W2.heap.size := by omega
  rw [e3]
  have Z := Lib.hid (And.intro hW2 hW3)
  have BB := Lib.hid (hB2.trans (hB3.mono (by omega)))
  replace TA := TA.below hB3
  replace TB := TB.below hB3
  clear hW2 hW3 hTa hTb hB2 hB3
  refine (first_any HH.out TA TB (hc3 0 _ rfl) (hc3 1 _ rfl) (hc3 2 _ rfl) (hc3 3 _ rfl) (hc3 4 _ rfl)).mono ?_
  rintro e w' ⟨rfl, hB⟩
  clear hc3
  dsimp only
  go_wp2
  go_ret
  exact ⟨rfl, BB.out.trans (hB.mono BB.out.size)⟩
end

end Go.Proofs.YtnmhnaanpjlniaaGreat
/-
  Layer 2: compareArgs and Compare, whatever they are given. (Written by gen_xc.py.)
-/
namespace Go.Proofs.YtnmhnaanpjlniaaGreat
open Go.RowKit

set_option maxRecDepth 100000 in
set_option maxHeartbeats 8000000 in
theorem compareArgs_any : ∀ (sz : Nat) (ts : Ts), ts.size < sz → ts.size ≤ 1000000 → ts.ok → ∀ (us : Ts), us.ok → ts.len ≤ us.len → us.len ≤ 9223372036854775807 → ∀ (w : World) (p q : Option Addr) (c d : Nat), Ts.At w p ts → Ts.At w q us →
    Calls Tryz.prog 55 #[.slice p ts.len c, .slice q us.len d] w fun e w' => e = .returned (.int .i64 (cmpL ts us)) ∧ Below w.heap.size w w' := by
  intro sz
  induction sz with
  | zero => intro ts h; omega
  | succ sz ih =>
    intro ts hsz hbig hok us hok' hle hle9 w p q c d hat hat'
    have hls := Ts.len_size ts
    obtain ⟨b, o, hp, hl⟩ := hat
    obtain ⟨b', o', hq, hl'⟩ := hat'
    have OK := Lib.hid hok
    have OK' := Lib.hid hok'
    have HP := Lib.hid hp
    have HQ := Lib.hid hq
    have LA : Hid (ts.lies w b o) := Lib.hid hl
    have LB : Hid (us.lies w b' o') := Lib.hid hl'
    clear hok hok' hp hq hl hl'
    go_enter Tryz.func55, Tryz.ntmps55
    go_wp2_with fail
    go_loopw [9] (fun s9 wr => ∃ (j : Nat), j ≤ ts.len ∧ s9 = .int .i64 j ∧ Hid (cmpL (ts.drop j) (us.drop j) = cmpL ts us) ∧ Hid (Below w.heap.size w wr)) (fun i _ => ts.len - (intOf i).toNat)
    case atStart => exact ⟨0, Nat.zero_le _, rfl, Lib.hid rfl, Lib.hid (Below.refl _ _)⟩
    case round =>
      rename_i wr _
      obtain ⟨j, hj, rfl, RC, BR⟩ := hrel
      by_cases hlt : j < ts.len
      · have hlt' : j < us.len := by omega
        have hp' := Ts.some_of HP.out hlt
        have hq' := Ts.some_of HQ.out hlt'
        subst hp' hq'
        obtain ⟨k, s, n, pp, cc, kids, rest, HD, EL, hsz1, hoke⟩ := Ts.elem LA.out BR.out OK.out hlt
        obtain ⟨k', s', n', pq, cd, kids', rest', HD', EL', hsz1', hoke'⟩ := Ts.elem LB.out BR.out OK'.out hlt'
        have OKE := Lib.hid hoke
        have OKE' := Lib.hid hoke'
        have hk9 : kids'.len ≤ 9223372036854775807 := by have := hoke'.2.2.2.1; omega
        have hcmp : ∀ W, Ts.At W pp kids → Ts.At W pq kids' → Calls Tryz.prog 21 #[.agg #[.int .u8 k, .string s, .int .i64 n, .slice pp kids.len cc], .agg #[.int .u8 k', .string s', .int .i64 n', .slice pq kids'.len cd]] W fun e w' => e = .returned (.int .i64 (cmpT k k' s s' n n' kids kids' (cmpL kids kids'))) ∧ Below W.heap.size W w' :=
          fun W h h' => compare_of (fun hl W p p' c c' h h' => ih kids (by omega) (by omega) OKE.out.2.2.2.2.2.1 kids' OKE'.out.2.2.2.2.2.1 (by omega) hk9 W p p' c c' h h') h h'
        have CMP := Lib.hid hcmp
        obtain ⟨x, hx⟩ : ∃ x, cmpT k k' s s' n n' kids kids' (cmpL kids kids') = x := ⟨_, rfl⟩
        have HX := Lib.hid hx
        have hr : cmpL ts us = or0 x (cmpL (ts.drop (j + 1)) (us.drop (j + 1))) := by
          have h1 := RC.out
          rw [HD.out, HD'.out] at h1
          rw [Ts.drop_succ j ts HD.out, Ts.drop_succ j us HD'.out, ← h1, ← hx]
          rfl
        have HR := Lib.hid hr
        clear hoke hoke' hcmp hx hr
        go_wp2_with fail
        refine region_by_facts (fun W => Below w.heap.size w W ∧ El b (o + j * 4) k s n pp cc kids W ∧ El b' (o' + j * 4) k' s' n' pq cd kids' W)
          [fun v _ => v = .slice (some ⟨b, o, none⟩) ts.len c, fun v _ => v = .int .i64 j, fun v _ => v = .pointer (some ⟨b, o + j * 4, none⟩), fun v _ => v = tv k s n pp kids.len cc, fun v _ => v = .slice (some ⟨b', o', none⟩) us.len d, fun v _ => v = .int .i64 j, fun v _ => v = .pointer (some ⟨b', o' + j * 4, none⟩), fun v _ => v = tv k' s' n' pq kids'.len cd, fun v _ => v = .int .i64 x, fun v _ => v = .int .i64 x]
          ⟨.eq _, .eq _, .eq _, .eq _, .eq _, .eq _, .eq _, .eq _, .eq _, .eq _, trivial⟩
          (by kernel_rfl) (by kernel_rfl) (by kernel_rfl) ?h0 ?steps ?done
        case h0 => exact ⟨below_drewN BR.out 1, EL.below (below_drewN (Below.refl _ _) 1), EL'.below (below_drewN (Below.refl _ _) 1)⟩
        case steps =>
          refine ⟨?_, ?_, ?_, ?_, ?_, ?_, ?_, ?_, ?_, ?_, trivial⟩
          · intro f W hI hd K hK
            simp only [frameOf, Act.put, List.setIfInBounds_toArray, List.set_cons_zero, List.set_cons_succ]
            go_simp
            refine hK.out (.slice (some ⟨b, o, none⟩) ts.len c) _ W ?_ hI (Below.refl _ _) rfl
            simp only [frameOf, Act.put, List.setIfInBounds_toArray, List.set_cons_zero, List.set_cons_succ]
          · intro f W hI hd K hK
            simp only [frameOf, Act.put, List.setIfInBounds_toArray, List.set_cons_zero, List.set_cons_succ]
            go_simp
            refine hK.out (.int .i64 j) _ W ?_ hI (Below.refl _ _) rfl
            simp only [frameOf, Act.put, List.setIfInBounds_toArray, List.set_cons_zero, List.set_cons_succ]
          · intro f W hI hd K hK
            simp only [frameOf, Act.put, List.setIfInBounds_toArray, List.set_cons_zero, List.set_cons_succ]
            have h0 : f 0 = .slice (some ⟨b, o, none⟩) ts.len c := hd 0 (by kernel_rfl)
            have h1 : f 1 = .int .i64 j := hd 1 (by kernel_rfl)
            rw [h0, h1]
            go_simp
            refine hK.out (.pointer (some ⟨b, o + j * 4, none⟩)) _ W ?_ hI (Below.refl _ _) rfl
            simp only [frameOf, Act.put, List.setIfInBounds_toArray, List.set_cons_zero, List.set_cons_succ, Nat.zero_add, Nat.reduceAdd, h0, h1]
          · intro f W hI hd K hK
            simp only [frameOf, Act.put, List.setIfInBounds_toArray, List.set_cons_zero, List.set_cons_succ]
            have h2 : f 2 = .pointer (some ⟨b, o + j * 4, none⟩) := hd 2 (by kernel_rfl)
            have k0 := hI.2.1.c0
            have k1 := hI.2.1.c1
            have k2 := hI.2.1.c2
            have k3 := hI.2.1.c3
            rw [h2]
            go_simp
            refine hK.out (tv k s n pp kids.len cc) _ W ?_ hI (Below.refl _ _) rfl
            simp only [tv, frameOf, Act.put, List.setIfInBounds_toArray, List.set_cons_zero, List.set_cons_succ, Nat.zero_add, Nat.reduceAdd, h2]
          · intro f W hI hd K hK
            simp only [frameOf, Act.put, List.setIfInBounds_toArray, List.set_cons_zero, List.set_cons_succ]
            go_simp
            refine hK.out (.slice (some ⟨b', o', none⟩) us.len d) _ W ?_ hI (Below.refl _ _) rfl
            simp only [frameOf, Act.put, List.setIfInBounds_toArray, List.set_cons_zero, List.set_cons_succ]
          · intro f W hI hd K hK
            simp only [frameOf, Act.put, List.setIfInBounds_toArray, List.set_cons_zero, List.set_cons_succ]
            go_simp
            refine hK.out (.int .i64 j) _ W ?_ hI (Below.refl _ _) rfl
            simp only [frameOf, Act.put, List.setIfInBounds_toArray, List.set_cons_zero, List.set_cons_succ]
          · intro f W hI hd K hK
            simp only [frameOf, Act.put, List.setIfInBounds_toArray, List.set_cons_zero, List.set_cons_succ]
            have h4 : f 4 = .slice (some ⟨b', o', none⟩) us.len d := hd 4 (by kernel_rfl)
            have h5 : f 5 = .int .i64 j := hd 5 (by kernel_rfl)
            rw [h4, h5]
            go_simp
            refine hK.out (.pointer (some ⟨b', o' + j * 4, none⟩)) _ W ?_ hI (Below.refl _ _) rfl
            simp only [frameOf, Act.put, List.setIfInBounds_toArray, List.set_cons_zero, List.set_cons_succ, Nat.zero_add, Nat.reduceAdd, h4, h5]
          · intro f W hI hd K hK
            simp only [frameOf, Act.put, List.setIfInBounds_toArray, List.set_cons_zero, List.set_cons_succ]
            have h6 : f 6 = .pointer (some ⟨b', o' + j * 4, none⟩) := hd 6 (by kernel_rfl)
            have k0 := hI.2.2.c0
            have k1 := hI.2.2.c1
            have k2 := hI.2.2.c2
            have k3 := hI.2.2.c3
            rw [h6]
            go_simp
            refine hK.out (tv k' s' n' pq kids'.len cd) _ W ?_ hI (Below.refl _ _) rfl
            simp only [tv, frameOf, Act.put, List.setIfInBounds_toArray, List.set_cons_zero, List.set_cons_succ, Nat.zero_add, Nat.reduceAdd, h6]
          · intro f W hI hd K hK
            simp only [frameOf, Act.put, List.setIfInBounds_toArray, List.set_cons_zero, List.set_cons_succ]
            have h3 : f 3 = tv k s n pp kids.len cc := hd 3 (by kernel_rfl)
            unfold tv at h3
            have h7 : f 7 = tv k' s' n' pq kids'.len cd := hd 7 (by kernel_rfl)
            unfold tv at h7
            rw [h3, h7]
            go_simp
            refine (CMP.out W hI.2.1.tat hI.2.2.tat).mono ?_
            rintro e w' ⟨rfl, hB⟩
            rw [HX.out]
            refine hK.out (.int .i64 x) _ _ ?_ ⟨hI.1.trans (hB.mono hI.1.size), hI.2.1.below hB, hI.2.2.below hB⟩ hB rfl
            simp only [frameOf, Act.put, List.setIfInBounds_toArray, List.set_cons_zero, List.set_cons_succ, Nat.zero_add, Nat.reduceAdd, h3, h7]
          · intro f W hI hd K hK
            simp only [frameOf, Act.put, List.setIfInBounds_toArray, List.set_cons_zero, List.set_cons_succ]
            have h8 : f 8 = .int .i64 x := hd 8 (by kernel_rfl)
            rw [h8]
            go_simp
            refine hK.out (.int .i64 x) _ W ?_ hI (Below.refl _ _) rfl
            simp only [frameOf, Act.put, List.setIfInBounds_toArray, List.set_cons_zero, List.set_cons_succ, Nat.zero_add, Nat.reduceAdd, h8]
        case done =>
          intro f W hI hF
          have h9 : f 9 = .int .i64 x := hF 9 (by decide)
          simp only [frameOf, Act.put, List.setIfInBounds_toArray, List.set_cons_zero, List.set_cons_succ]
          rw [h9]
          clear hF h9
          obtain ⟨hBW, -, -⟩ := hI
          replace BR := Lib.hid hBW
          clear hBW EL EL'
          by_cases hz : (x != 0) = true
          · go_wp2
            have HZ := Lib.hid hz
            clear hz
            go_ret
            refine ⟨?_, BR.out⟩
            rw [HR.out, or0, if_neg (by simpa using HZ.out)]
            first | done | rfl
          · rw [Bool.not_eq_true] at hz
            have h0 : Hid (x = 0) := Lib.hid (by simpa using hz)
            go_wp2
            go_roundw
            case rel => exact ⟨j + 1, by omega, by go_num, Lib.hid (by rw [HR.out, or0, if_pos h0.out]), BR⟩
            case measure => simp [intOf]; omega
      · have hd := Ts.drop_end hlt
        have hr : cmpL ts us = 0 := by
          have h1 := RC.out
          rw [hd] at h1
          rw [← h1]
          cases us.drop j <;> rfl
        have HR := Lib.hid hr
        clear hr hd
        go_wp2
        go_ret
        refine ⟨?_, BR.out⟩
        rw [HR.out]
        first | done | rfl

/-- Compare, whatever it is given -/
theorem compare_any {k k' : Int} {s s' : ByteArray} {n n' : Int} {p p' : Option Addr} {c c' : Nat} {ts us : Ts} {W : World} (hbig : ts.size ≤ 1000000) (hok : ts.ok) (hok' : us.ok) (hats : Ts.At W p ts) (hatu : Ts.At W p' us) :
    Calls Tryz.prog 21 #[.agg #[.int .u8 k, .string s, .int .i64 n, .slice p ts.len c], .agg #[.int .u8 k', .string s', .int .i64 n', .slice p' us.len c']] W fun e w' => e = .returned (.int .i64 (cmpT k k' s s' n n' ts us (cmpL ts us))) ∧ Below W.heap.size W w' :=
  compare_of (fun hl W p p' c c' h h' => compareArgs_any _ ts (Nat.lt_succ_self _) hbig hok us hok' (by omega) (by have := Ts.len_size ts; omega) W p p' c c' h h') hats hatu

end Go.Proofs.YtnmhnaanpjlniaaGreat
/-
  Layer 2: plain facts of the order: it turns round, it goes on, it is zero just where two are alike, and it looks at no memory.
-/
namespace Go.Proofs.YtnmhnaanpjlniaaGreat
open Go.RowKit

theorem ci_neg (x y : Int) : ci y x = -(ci x y) := by
  unfold ci
  split <;> split <;> first | omega | (split <;> omega)

theorem ci_self (x : Int) : ci x x = 0 := by
  unfold ci
  rw [if_neg (by omega), if_neg (by omega)]


theorem cB_cons (a b : UInt8) (l m : List UInt8) : Lib.compareBytes (a :: l) (b :: m) = or0 (ci a.toNat b.toNat) (Lib.compareBytes l m) := by
  simp only [Lib.compareBytes]
  have h1 : (a < b) ↔ (a.toNat < b.toNat) := UInt8.lt_iff_toNat_lt
  have h2 : (b < a) ↔ (b.toNat < a.toNat) := UInt8.lt_iff_toNat_lt
  unfold or0 ci
  by_cases ha : a.toNat < b.toNat
  · rw [if_pos (h1.2 ha), if_pos (show ((a.toNat : Nat) : Int) < (b.toNat : Nat) by omega), if_neg (by omega)]
  · rw [if_neg (fun h => ha (h1.1 h)), if_neg (show ¬ ((a.toNat : Nat) : Int) < (b.toNat : Nat) by omega)]
    by_cases hb : b.toNat < a.toNat
    · rw [if_pos (h2.2 hb), if_pos (show ((b.toNat : Nat) : Int) < (a.toNat : Nat) by omega), if_neg (by omega)]
    · rw [if_neg (fun h => hb (h2.1 h)), if_neg (show ¬ ((b.toNat : Nat) : Int) < (a.toNat : Nat) by omega), if_pos rfl]

theorem or0_neg {a b a' b' : Int} (h : a' = -a) (h' : b' = -b) : or0 a' b' = -(or0 a b) := by
  unfold or0
  split <;> split <;> omega

theorem cB_neg : ∀ (l m : List UInt8), Lib.compareBytes m l = -(Lib.compareBytes l m)
  | [], [] => rfl
  | [], _ :: _ => rfl
  | _ :: _, [] => rfl
  | a :: l, b :: m => by rw [cB_cons, cB_cons]; exact or0_neg (ci_neg _ _) (cB_neg l m)


theorem cB_zero : ∀ (l m : List UInt8), Lib.compareBytes l m = 0 ↔ l = m
  | [], [] => by simp [Lib.compareBytes]
  | [], _ :: _ => by simp [Lib.compareBytes]
  | _ :: _, [] => by simp [Lib.compareBytes]
  | a :: l, b :: m => by
    rw [cB_cons, List.cons.injEq, ← cB_zero l m]
    unfold or0
    constructor
    · intro h
      split at h
      · rename_i h0
        have := ci_zero h0
        exact ⟨UInt8.toNat_inj.1 this, h⟩
      · omega
    · rintro ⟨rfl, h⟩
      rw [ci_self, if_pos rfl]
      exact h

theorem cb_zero (s t : ByteArray) : cb s t = 0 ↔ (s.toList == t.toList) = true := by
  unfold cb
  rw [cB_zero, beq_iff_eq, ByteArray.toList_eq, ByteArray.toList_eq]


theorem ci_zero_iff (x y : Int) : ci x y = 0 ↔ (x == y) = true := by
  rw [beq_iff_eq]
  unfold ci
  constructor
  · intro h
    split at h
    · omega
    · split at h <;> omega
  · rintro rfl
    rw [if_neg (by omega), if_neg (by omega)]

theorem or0_zero (a b : Int) : or0 a b = 0 ↔ a = 0 ∧ b = 0 := by
  unfold or0
  split <;> omega


theorem cmpT_neg {k k' : Int} {s s' : ByteArray} {n n' : Int} {ts us : Ts} {r r' : Int} (h : r' = -r) : cmpT k' k s' s n' n us ts r' = -(cmpT k k' s s' n n' ts us r) :=
  or0_neg (ci_neg _ _) (or0_neg (ci_neg _ _) (or0_neg (ci_neg _ _) (or0_neg (cB_neg _ _) h)))

theorem cmpL_neg : ∀ (ts us : Ts), cmpL us ts = -(cmpL ts us)
  | .nil, .nil => rfl
  | .nil, .cons .. => rfl
  | .cons .., .nil => rfl
  | .cons k s n p c ks r, .cons k' s' n' p' c' ks' r' => by
    simp only [cmpL]
    exact or0_neg (cmpT_neg (cmpL_neg ks ks')) (cmpL_neg r r')



/-- zero, just where two are alike -/
theorem cmpL_zero : ∀ (ts us : Ts), ts.len = us.len → (cmpL ts us = 0 ↔ alike ts us = true)
  | .nil, .nil, _ => by simp [cmpL, alike]
  | .nil, .cons .., h => by simp [Ts.len] at h
  | .cons .., .nil, h => by simp [Ts.len] at h
  | .cons k s n p c ks r, .cons k' s' n' p' c' ks' r', h => by
    have hr : r.len = r'.len := by simp only [Ts.len] at h; omega
    simp only [cmpL, cmpT, alike, or0_zero, ci_zero_iff, cb_zero, Bool.and_eq_true, cmpL_zero r r' hr]
    constructor
    · rintro ⟨⟨h1, h2, h3, h4, h5⟩, h6⟩
      have hl : ks.len = ks'.len := by rw [beq_iff_eq] at h3; omega
      exact ⟨h1, h4, h2, (cmpL_zero ks ks' hl).1 h5, h6⟩
    · rintro ⟨h1, h4, h2, h5, h6⟩
      have hl := alike_len _ _ h5
      exact ⟨⟨h1, h2, by rw [hl]; simp, h4, (cmpL_zero ks ks' hl).2 h5⟩, h6⟩

theorem cmpT_zero (k k' : Int) (s s' : ByteArray) (n n' : Int) (ts us : Ts) : cmpT k k' s s' n n' ts us (cmpL ts us) = 0 ↔ (headAlike k k' s s' n n' && alike ts us) = true := by
  simp only [cmpT, headAlike, or0_zero, ci_zero_iff, cb_zero, Bool.and_eq_true]
  constructor
  · rintro ⟨h1, h2, h3, h4, h5⟩
    have hl : ts.len = us.len := by rw [beq_iff_eq] at h3; omega
    exact ⟨⟨h1, h4, h2⟩, (cmpL_zero _ _ hl).1 h5⟩
  · rintro ⟨⟨h1, h4, h2⟩, h5⟩
    have hl := alike_len _ _ h5
    exact ⟨h1, h2, by rw [hl]; simp, h4, (cmpL_zero _ _ hl).2 h5⟩







theorem cmpL_twin : ∀ {t u t' u' : Ts}, Ts.twin t t' → Ts.twin u u' → cmpL t u = cmpL t' u'
  | .nil, _, .nil, _, _, _ => by simp [cmpL]
  | .cons .., .nil, .cons .., .nil, _, _ => by simp [cmpL]
  | .cons .., .cons .., .cons .., .cons .., ⟨rfl, rfl, rfl, h1, h2⟩, ⟨rfl, rfl, rfl, h3, h4⟩ => by
    simp only [cmpL, cmpT]
    rw [cmpL_twin h1 h3, cmpL_twin h2 h4, Ts.twin_len _ _ h1, Ts.twin_len _ _ h3]
  | .nil, _, .cons .., _, h, _ => h.elim
  | .cons .., _, .nil, _, h, _ => h.elim
  | .cons .., .nil, .cons .., .cons .., _, h => h.elim
  | .cons .., .cons .., .cons .., .nil, _, h => h.elim

theorem cmpT_twin {k k' : Int} {s s' : ByteArray} {n n' : Int} {t u t' u' : Ts} (h : Ts.twin t t') (h' : Ts.twin u u') : cmpT k k' s s' n n' t u (cmpL t u) = cmpT k k' s s' n n' t' u' (cmpL t' u') := by
  unfold cmpT
  rw [cmpL_twin h h', Ts.twin_len _ _ h, Ts.twin_len _ _ h']


theorem cmpT_refl (k : Int) (s : ByteArray) (n : Int) (ts : Ts) : cmpT k k s s n n ts ts (cmpL ts ts) = 0 := by
  rw [cmpT_zero, alike_refl]
  simp [headAlike]

end Go.Proofs.YtnmhnaanpjlniaaGreat
/-
  Layer 2: the document's own Compare, of good terms. (Written by gen_xl.py.)
-/
namespace Go.Proofs.YtnmhnaanpjlniaaGreat
open Go.RowKit









end Go.Proofs.YtnmhnaanpjlniaaGreat
