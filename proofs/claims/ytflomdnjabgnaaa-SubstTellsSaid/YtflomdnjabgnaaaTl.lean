import Derived.Test.YtflomdnjabgnaaaTk
/-
  Terms that are made.
-/
namespace Go.Proofs.Ytflomdnjabgnaaa
open Go.RowKit

set_option maxHeartbeats 1000000 in
theorem V_any (n : Int) (w : World) : Calls Try.prog 31 #[.int .i64 n] w fun e w' => e = .returned (tv 1 ⟨#[]⟩ n none 0 0) ∧ Below w.heap.size w w' := by
  go_enter Try.func31, Try.ntmps31
  go_wp2
  exact bodyPost_ret (v := tv 1 ⟨#[]⟩ n none 0 0) (by simp [results, Try.results31, go_sem, tv]) rfl ⟨rfl, (Below.refl _ _).alloc (Nat.le_refl _) _⟩

set_option maxHeartbeats 1000000 in
theorem I_any (n : Int) (w : World) : Calls Try.prog 67 #[.int .i64 n] w fun e w' => e = .returned (tv 2 ⟨#[]⟩ n none 0 0) ∧ Below w.heap.size w w' := by
  go_enter Try.func67, Try.ntmps67
  go_wp2
  exact bodyPost_ret (v := tv 2 ⟨#[]⟩ n none 0 0) (by simp [results, Try.results67, go_sem, tv]) rfl ⟨rfl, (Below.refl _ _).alloc (Nat.le_refl _) _⟩

set_option maxHeartbeats 1000000 in
theorem A_any (s : ByteArray) (w : World) : Calls Try.prog 57 #[.string s] w fun e w' => e = .returned (tv 3 s 0 none 0 0) ∧ Below w.heap.size w w' := by
  go_enter Try.func57, Try.ntmps57
  go_wp2
  exact bodyPost_ret (v := tv 3 s 0 none 0 0) (by simp [results, Try.results57, go_sem, tv]) rfl ⟨rfl, (Below.refl _ _).alloc (Nat.le_refl _) _⟩

set_option maxHeartbeats 1000000 in
theorem F_any (s : ByteArray) (ts : Ts) (hbig : ts.size ≤ 1000000) (hok : ts.ok) (w : World) (p : Option Addr) (c : Nat) (hat : Ts.At w p ts) :
    Calls Try.prog 39 #[.string s, .slice p ts.len c] w fun e w' => ∃ (us : Ts) (p' : Option Addr) (c' : Nat), e = .returned (tv (if ts.len = 0 then 3 else 4) s 0 p' us.len c') ∧ Ts.AtB w.heap.size w' p' us ∧ Ts.twin us ts ∧ us.ok ∧ (us.len ≤ c' ∧ c' ≤ 9223372036854775807) ∧ (p' = none → c' = 0) ∧ Below w.heap.size w w' := by
  have hls := Ts.len_size ts
  by_cases h0 : ((ts.len : Int) == 0) = true
  · have hl0 : ts.len = 0 := by simp at h0; omega
    obtain rfl : ts = .nil := Ts.len_zero hl0
    clear h0
    have h0 : Ts.nil.len = 0 := rfl
    go_enter Try.func39, Try.ntmps39
    go_wp2_with fail
    refine (A_any s _).mono ?_
    rintro e w' ⟨rfl, hB⟩
    unfold tv
    have hB0 : Below w.heap.size w (w.alloc (.cells #[.int .u8 0, .string ⟨#[]⟩, .int .i64 0, .slice none 0 0] 24)) := (Below.refl _ _).alloc (Nat.le_refl _) _
    obtain ⟨hc, hf⟩ := stays hB
    have hz1 : w.heap.size < w'.heap.size := by have := hB.size; simp at this; omega
    go_wp2
    refine bodyPost_ret (v := tv 3 s 0 none 0 0) (by simp [results, Try.results39, go_sem, hc, tv]) rfl ⟨.nil, none, 0, rfl, ⟨0, 0, .inl rfl, trivial⟩, trivial, trivial, ⟨Nat.le_refl _, by omega⟩, fun _ => rfl, ?_⟩
    repeat (first | exact hB0.trans (hB.mono hB0.size) | refine Below.setCell (p := ⟨w.heap.size, _, none⟩) ?_ (by simp) _)
  · rw [Bool.not_eq_true] at h0
    have hl0 : Hid (¬ ts.len = 0) := Lib.hid (by simp at h0; omega)
    go_enter Try.func39, Try.ntmps39
    go_wp2_with fail
    have hB0 : Below w.heap.size w (w.alloc (.cells #[.int .u8 0, .string ⟨#[]⟩, .int .i64 0, .slice none 0 0] 24)) := (Below.refl _ _).alloc (Nat.le_refl _) _
    refine (clones_any _ ts (Nat.lt_succ_self _) hbig hok _ p c (hat.below hB0)).mono ?_
    rintro e w' ⟨us, p', c', rfl, hat', htw, hok', hcl, hpn, hB⟩
    obtain ⟨hc, hf⟩ := stays hB
    have hz1 : w.heap.size < w'.heap.size := by have := hB.size; simp at this; omega
    have AT := Lib.hid hat'
    have TW := Lib.hid htw
    have BB := Lib.hid (hB0.trans (hB.mono hB0.size))
    clear hat' htw
    go_wp2
    refine bodyPost_ret (v := tv 4 s 0 p' us.len c') (by simp [results, Try.results39, go_sem, hc, tv]) rfl ⟨us, p', c', rfl, ?_, TW.out, hok', hcl, hpn, ?_⟩
    · refine AT.out.stay (by simp) fun b y hb hlt => ?_
      have hne : b ≠ w.heap.size := by simp at hb; omega
      simp [go_sem, hne, Ne.symm hne]
    · repeat (first | exact BB.out | refine Below.setCell (p := ⟨w.heap.size, _, none⟩) ?_ (by simp) _)
end Go.Proofs.Ytflomdnjabgnaaa
