import Derived.Test.YtnmhnaanpjlniaaTk
/-
  Terms that are made.
-/
namespace Go.Proofs.Ytnmhnaanpjlniaa
open Go.RowKit

set_option maxHeartbeats 1000000 in
theorem V_any (n : Int) (w : World) : Calls Try.prog 48 #[.int .i64 n] w fun e w' => e = .returned (tv 1 ⟨#[]⟩ n none 0 0) ∧ Below w.heap.size w w' := by
  go_enter Try.func48, Try.ntmps48
  go_wp2
  exact bodyPost_ret (v := tv 1 ⟨#[]⟩ n none 0 0) (by simp [results, Try.results48, go_sem, tv]) rfl ⟨rfl, (Below.refl _ _).alloc (Nat.le_refl _) _⟩

set_option maxHeartbeats 1000000 in
theorem I_any (n : Int) (w : World) : Calls Try.prog 47 #[.int .i64 n] w fun e w' => e = .returned (tv 2 ⟨#[]⟩ n none 0 0) ∧ Below w.heap.size w w' := by
  go_enter Try.func47, Try.ntmps47
  go_wp2
  exact bodyPost_ret (v := tv 2 ⟨#[]⟩ n none 0 0) (by simp [results, Try.results47, go_sem, tv]) rfl ⟨rfl, (Below.refl _ _).alloc (Nat.le_refl _) _⟩

set_option maxHeartbeats 1000000 in
theorem A_any (s : ByteArray) (w : World) : Calls Try.prog 49 #[.string s] w fun e w' => e = .returned (tv 3 s 0 none 0 0) ∧ Below w.heap.size w w' := by
  go_enter Try.func49, Try.ntmps49
  go_wp2
  exact bodyPost_ret (v := tv 3 s 0 none 0 0) (by simp [results, Try.results49, go_sem, tv]) rfl ⟨rfl, (Below.refl _ _).alloc (Nat.le_refl _) _⟩

set_option maxHeartbeats 1000000 in
theorem F_any (s : ByteArray) (ts : Ts) (hbig : ts.size ≤ 1000000) (hok : ts.ok) (w : World) (p : Option Addr) (c : Nat) (hat : Ts.At w p ts) :
    Calls Try.prog 15 #[.string s, .slice p ts.len c] w fun e w' => ∃ (us : Ts) (p' : Option Addr) (c' : Nat), e = .returned (tv (if ts.len = 0 then 3 else 4) s 0 p' us.len c') ∧ Ts.AtB w.heap.size w' p' us ∧ Ts.twin us ts ∧ us.ok ∧ (us.len ≤ c' ∧ c' ≤ 9223372036854775807) ∧ (p' = none → c' = 0) ∧ Below w.heap.size w w' := by
  have hls := Ts.len_size ts
  by_cases h0 : ((ts.len : Int) == 0) = true
  · have hl0 : ts.len = 0 := by simp at h0; omega
    obtain rfl : ts = .nil := Ts.len_zero hl0
    clear h0
    have h0 : Ts.nil.len = 0 := rfl
    go_enter Try.func15, Try.ntmps15
    go_wp2_with fail
    refine (A_any s _).mono ?_
    rintro e w' ⟨rfl, hB⟩
    unfold tv
    have hB0 : Below w.heap.size w (w.alloc (.cells #[.int .u8 0, .string ⟨#[]⟩, .int .i64 0, .slice none 0 0] 25)) := (Below.refl _ _).alloc (Nat.le_refl _) _
    obtain ⟨hc, hf⟩ := stays hB
    have hz1 : w.heap.size < w'.heap.size := by have := hB.size; simp at this; omega
    go_wp2
    refine bodyPost_ret (v := tv 3 s 0 none 0 0) (by simp [results, Try.results15, go_sem, hc, tv]) rfl ⟨.nil, none, 0, rfl, ⟨0, 0, .inl rfl, trivial⟩, trivial, trivial, ⟨Nat.le_refl _, by omega⟩, fun _ => rfl, ?_⟩
    repeat (first | exact hB0.trans (hB.mono hB0.size) | refine Below.setCell (p := ⟨w.heap.size, _, none⟩) ?_ (by simp) _)
  · rw [Bool.not_eq_true] at h0
    have hl0 : Hid (¬ ts.len = 0) := Lib.hid (by simp at h0; omega)
    go_enter Try.func15, Try.ntmps15
    go_wp2_with fail
    have hB0 : Below w.heap.size w (w.alloc (.cells #[.int .u8 0, .string ⟨#[]⟩, .int .i64 0, .slice none 0 0] 25)) := (Below.refl _ _).alloc (Nat.le_refl _) _
    refine (clones_any _ ts (Nat.lt_succ_self _) hbig hok _ p c (hat.below hB0)).mono ?_
    rintro e w' ⟨us, p', c', rfl, hat', htw, hok', hcl, hpn, hB⟩
    obtain ⟨hc, hf⟩ := stays hB
    have hz1 : w.heap.size < w'.heap.size := by have := hB.size; simp at this; omega
    have AT := Lib.hid hat'
    have TW := Lib.hid htw
    have BB := Lib.hid (hB0.trans (hB.mono hB0.size))
    clear hat' htw
    go_wp2
    refine bodyPost_ret (v := tv 4 s 0 p' us.len c') (by simp [results, Try.results15, go_sem, hc, tv]) rfl ⟨us, p', c', rfl, ?_, TW.out, hok', hcl, hpn, ?_⟩
    · refine AT.out.stay (by simp) fun b y hb hlt => ?_
      have hne : b ≠ w.heap.size := by simp at hb; omega
      simp [go_sem]
    · repeat (first | exact BB.out | refine Below.setCell (p := ⟨w.heap.size, _, none⟩) ?_ (by simp) _)
end Go.Proofs.Ytnmhnaanpjlniaa
/-
  A term is stored into a list's place.
-/
namespace Go.Proofs.Ytnmhnaanpjlniaa
open Go.RowKit

/-- a term into a list's place -/
theorem put4 (w' : World) (R x : Nat) (v0 v1 v2 v3 : Value) (r0 : (w'.cell? ⟨R, x, none⟩).isSome) (r1 : (w'.cell? ⟨R, x + 1, none⟩).isSome) (r2 : (w'.cell? ⟨R, x + 2, none⟩).isSome) (r3 : (w'.cell? ⟨R, x + 3, none⟩).isSome) :
    ∃ W, W = ((((w'.setCell ⟨R, x, none⟩ v0).setCell ⟨R, x + 1, none⟩ v1).setCell ⟨R, x + 2, none⟩ v2).setCell ⟨R, x + 3, none⟩ v3) ∧ W.heap.size = w'.heap.size ∧
      (∀ b y, b ≠ R → W.cell? ⟨b, y, none⟩ = w'.cell? ⟨b, y, none⟩) ∧ (∀ y, y < x ∨ x + 4 ≤ y → W.cell? ⟨R, y, none⟩ = w'.cell? ⟨R, y, none⟩) ∧
      W.cell? ⟨R, x, none⟩ = some v0 ∧ W.cell? ⟨R, x + 1, none⟩ = some v1 ∧ W.cell? ⟨R, x + 2, none⟩ = some v2 ∧ W.cell? ⟨R, x + 3, none⟩ = some v3 ∧ (∀ b y, W.frozen? ⟨b, y, none⟩ = w'.frozen? ⟨b, y, none⟩) ∧
      (∀ B (w : World), B ≤ R → Below B w w' → Below B w W) := by
  have hneq : ∀ y z : Nat, y ≠ z → (⟨R, y, none⟩ : Addr) ≠ ⟨R, z, none⟩ := fun y z h e => h (by injection e)
  have other : ∀ (u : World) (p q : Addr) (v : Value), p ≠ q → (u.setCell p v).cell? q = u.cell? q := fun u p q v h => World.cell?_setCell_other _ _ _ _ h
  have same : ∀ (u : World) (p : Addr) (v y : Value), u.cell? p = some y → (u.setCell p v).cell? p = some v := fun u p v y h => World.cell?_setCell_same _ _ _ h
  obtain ⟨u0, r0⟩ := Option.isSome_iff_exists.1 r0
  obtain ⟨u1, r1⟩ := Option.isSome_iff_exists.1 r1
  obtain ⟨u2, r2⟩ := Option.isSome_iff_exists.1 r2
  obtain ⟨u3, r3⟩ := Option.isSome_iff_exists.1 r3
  refine ⟨_, rfl, by simp, fun b y h2 => ?_, fun y hy => ?_, ?_, ?_, ?_, ?_, fun b y => by simp, fun B w hR hB => ?_⟩
  · have hb : ∀ z : Nat, (⟨R, z, none⟩ : Addr) ≠ ⟨b, y, none⟩ := fun z e => h2 (by injection e with e1; exact e1.symm)
    rw [other _ _ _ _ (hb _), other _ _ _ _ (hb _), other _ _ _ _ (hb _), other _ _ _ _ (hb _)]
  · rw [other _ _ _ _ (hneq _ _ (by omega)), other _ _ _ _ (hneq _ _ (by omega)), other _ _ _ _ (hneq _ _ (by omega)), other _ _ _ _ (hneq _ _ (by omega))]
  · rw [other _ _ _ _ (hneq _ _ (by omega)), other _ _ _ _ (hneq _ _ (by omega)), other _ _ _ _ (hneq _ _ (by omega))]
    exact same _ _ _ u0 r0
  · rw [other _ _ _ _ (hneq _ _ (by omega)), other _ _ _ _ (hneq _ _ (by omega))]
    exact same _ _ _ u1 (by rw [other _ _ _ _ (hneq _ _ (by omega))]; exact r1)
  · rw [other _ _ _ _ (hneq _ _ (by omega))]
    exact same _ _ _ u2 (by rw [other _ _ _ _ (hneq _ _ (by omega)), other _ _ _ _ (hneq _ _ (by omega))]; exact r2)
  · exact same _ _ _ u3 (by rw [other _ _ _ _ (hneq _ _ (by omega)), other _ _ _ _ (hneq _ _ (by omega)), other _ _ _ _ (hneq _ _ (by omega))]; exact r3)
  · exact (((hB.setCell (p := ⟨R, x, none⟩) hR _).setCell (p := ⟨R, x + 1, none⟩) hR _).setCell (p := ⟨R, x + 2, none⟩) hR _).setCell (p := ⟨R, x + 3, none⟩) hR _

end Go.Proofs.Ytnmhnaanpjlniaa
