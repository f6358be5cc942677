/-
  Layer 2: Sort of fewer than twenty terms.
-/
import Derived.Test.YtlhclblekpngnaaXg
namespace Go.Proofs.Ytlhclblekpngnaa
open Go.RowKit

set_option maxRecDepth 100000 in
set_option maxHeartbeats 4000000 in
theorem stable_small (R c : Nat) (us : Ts) (w : World) (how : OwnS R us w) (hsm : us.len < 20) (hsz : us.size ≤ 1000000) (hc : us.len ≤ c ∧ c ≤ 9223372036854775807) :
    Calls Try.prog 92 #[.slice (some ⟨R, 0, none⟩) us.len c, .int .i64 us.len, .func (.func 34) #[] #[]] w fun e w' => e = .returned (.tuple #[]) ∧ OwnS R (insOut 0 (us.len - (0 + 1)) (0 + 1) us) w' ∧ Below R w w' := by
  have OW := Lib.hid how
  clear how
  have h1 : ¬ (20 : Int) ≤ (us.len : Int) := by omega
  have h2 : ¬ (20 : Int) < (us.len : Int) := by omega
  go_enter Try.func92, Try.ntmps92
  go_wp2_with fail
  go_loop [7, 8] (fun s7 s8 => s7 = .int .i64 0 ∧ s8 = .int .i64 20) (fun _ _ => 0)
  case atStart => exact ⟨rfl, rfl⟩
  case round =>
    obtain ⟨rfl, rfl⟩ := hrel
    go_wp2_with fail
    refine (insert_any R c 0 us.len us w OW.out (Nat.zero_le _) (Nat.le_refl _) hsz hc).mono ?_
    rintro e w' ⟨rfl, hO, hB⟩
    have OS := Lib.hid hO
    have BS := Lib.hid hB
    clear hO hB
    go_wp2_with fail
    go_loop [6] (fun s6 => s6 = .int .i64 20) (fun _ => 0)
    case atStart => exact rfl
    case round =>
      obtain rfl := hrel
      go_wp2
      go_end0
      exact ⟨rfl, OS.out, BS.out⟩

set_option maxRecDepth 100000 in
set_option maxHeartbeats 4000000 in
theorem sortStable_small (R c : Nat) (us : Ts) (w : World) (how : OwnS R us w) (hsm : us.len < 20) (hsz : us.size ≤ 1000000) (hc : us.len ≤ c ∧ c ≤ 9223372036854775807) :
    Calls Try.prog 72 #[.slice (some ⟨R, 0, none⟩) us.len c, .func (.func 34) #[] #[]] w fun e w' => e = .returned (.tuple #[]) ∧ OwnS R (insOut 0 (us.len - (0 + 1)) (0 + 1) us) w' ∧ Below R w w' := by
  have OW := Lib.hid how
  clear how
  go_enter Try.func72, Try.ntmps72
  go_wp2_with fail
  refine (stable_small R c us w OW.out hsm hsz hc).mono ?_
  rintro e w' ⟨rfl, hO, hB⟩
  have OS := Lib.hid hO
  have BS := Lib.hid hB
  clear hO hB
  go_wp2
  go_end0
  exact ⟨rfl, OS.out, BS.out⟩

set_option maxRecDepth 100000 in
set_option maxHeartbeats 4000000 in
theorem sort_small (ts : Ts) (h0 : 0 < ts.len) (hsm : ts.len < 20) (hsz : ts.size ≤ 1000000) (hok : ts.ok) (w : World) (p : Option Addr) (c : Nat) (hat : Ts.At w p ts) :
    Calls Try.prog 36 #[.slice p ts.len c] w fun e w' => ∃ (us : Ts) (R : Nat), e = .returned (.slice (some ⟨R, 0, none⟩) us.len us.len) ∧ Ts.twin us ts ∧ us.ok ∧ OwnS R (insOut 0 (us.len - 1) 1 us) w' ∧ Below w.heap.size w w' := by
  have OK := Lib.hid hok
  have AT := Lib.hid hat
  clear hok hat
  go_enter Try.func36, Try.ntmps36
  go_wp2_with fail
  refine (oclones_any _ ts (Nat.lt_succ_self _) hsz OK.out w p c AT.out).mono ?_
  rintro e w2 ⟨us, p', c', rfl, -, htw, hok', -, -, hB, hown⟩
  have hl := Ts.twin_len _ _ htw
  have hs := Ts.twin_size _ _ htw
  obtain ⟨rfl, rfl, hO⟩ := hown (by omega)
  have TW := Lib.hid htw
  have OK' := Lib.hid hok'
  have OO := Lib.hid hO
  have BB := Lib.hid hB
  have hls := Ts.len_size us
  have hu1 : us.len < 20 := by omega
  have hu2 : us.size ≤ 1000000 := by omega
  clear htw hok' hO hB hown hl hs
  go_wp2_with fail
  refine (sortStable_small w.heap.size us.len us w2 OO.out hu1 hu2 ⟨Nat.le_refl _, by omega⟩).mono ?_
  rintro e w' ⟨rfl, hO2, hB2⟩
  have O2 := Lib.hid hO2
  have B2 := Lib.hid (BB.out.trans hB2)
  clear hO2 hB2
  go_wp2
  go_ret
  exact ⟨us, _, rfl, TW.out, OK'.out, O2.out, B2.out⟩

theorem sorted5 (s1 s2 s3 : ByteArray) (p1 p2 p3 p4 p5 : Option Addr) (c1 c2 c3 c4 c5 : Nat) (ka kb : Ts) (ha : ka.len = 2) (hb : kb.len = 1) :
    insOut 0 (5 - 1) 1 (.cons 4 s1 0 p1 c1 ka (.cons 4 s2 0 p2 c2 kb (.cons 3 s3 0 p3 c3 .nil (.cons 2 ⟨#[]⟩ 7 p4 c4 .nil (.cons 1 ⟨#[]⟩ 9 p5 c5 .nil .nil))))) =
    .cons 1 ⟨#[]⟩ 9 p5 c5 .nil (.cons 2 ⟨#[]⟩ 7 p4 c4 .nil (.cons 3 s3 0 p3 c3 .nil (.cons 4 s2 0 p2 c2 kb (.cons 4 s1 0 p1 c1 ka .nil)))) := by
  simp [insOut, insIn, ltAt, Ts.drop, Ts.swap, cmpT, or0, ci, ha, hb]

end Go.Proofs.Ytlhclblekpngnaa
