/-
  Layer 2: Sort of at most thirty terms, by places.
-/
import Derived.Test.YtlhclblekpngnaaYg
namespace Go.Proofs.Ytlhclblekpngnaa
open Go.RowKit

theorem sortStable_any (R c : Nat) (us : Ts) (w : World) (how : OwnS R us w) (h30 : us.len ≤ 30) (hsz : us.size ≤ 1000000) (hc : us.len ≤ c ∧ c ≤ 9223372036854775807) :
    Calls Try.prog 72 #[.slice (some ⟨R, 0, none⟩) us.len c, .func (.func 34) #[] #[]] w fun e w' => e = .returned (.tuple #[]) ∧ ∃ d', OwnF R us.len d' w' ∧ PermF 0 us.len (itemAt us) d' ∧ SortedF cmI d' 0 us.len ∧ Below R w w' := by
  by_cases h : us.len < 20
  · refine (sortStable_small R c us w how h hsz hc).mono ?_
    rintro e w' ⟨rfl, hO, hB⟩
    obtain ⟨s1, p1⟩ := insOut_sorted (a := 0) (b := us.len) (ts := us) (Nat.zero_le _) (Nat.le_refl _)
    have hF := hO.toF
    rw [insOut_len] at hF
    exact ⟨rfl, _, hF, p1, s1, hB⟩
  · have OW := Lib.hid how
    clear how
    go_enter Try.func72, Try.ntmps72
    go_wp2_with fail
    refine (stable_great R c us w OW.out (by omega) h30 hsz hc).mono ?_
    rintro e w' ⟨rfl, hO⟩
    have OS := Lib.hid hO
    clear hO
    go_wp2
    go_end0
    exact ⟨rfl, OS.out⟩

set_option maxRecDepth 100000 in
set_option maxHeartbeats 4000000 in
theorem sort_any (ts : Ts) (h0 : 0 < ts.len) (h30 : ts.len ≤ 30) (hsz : ts.size ≤ 1000000) (hok : ts.ok) (w : World) (p : Option Addr) (c : Nat) (hat : Ts.At w p ts) :
    Calls Try.prog 36 #[.slice p ts.len c] w fun e w' => ∃ (us : Ts) (R : Nat) (d' : Nat → It), e = .returned (.slice (some ⟨R, 0, none⟩) us.len us.len) ∧ Ts.twin us ts ∧ us.ok ∧ OwnF R us.len d' w' ∧ PermF 0 us.len (itemAt us) d' ∧ SortedF cmI d' 0 us.len ∧ Below w.heap.size w w' := by
  have OK := Lib.hid hok
  have AT := Lib.hid hat
  clear hok hat
  go_enter Try.func36, Try.ntmps36
  go_wp2_with fail
  refine (oclones_any _ ts (Nat.lt_succ_self _) hsz OK.out w p c AT.out).mono ?_
  rintro e w2 ⟨us, p', c', rfl, -, htw, hok', -, -, hB, hown⟩
  have hl := Ts.twin_len _ _ htw
  have hs := Ts.twin_size _ _ htw
  obtain ⟨rfl, rfl, hO⟩ := hown (by omega)
  have TW := Lib.hid htw
  have OK' := Lib.hid hok'
  have OO := Lib.hid hO
  have BB := Lib.hid hB
  have hls := Ts.len_size us
  have hu1 : us.len ≤ 30 := by omega
  have hu2 : us.size ≤ 1000000 := by omega
  clear htw hok' hO hB hown hl hs
  go_wp2_with fail
  refine (sortStable_any w.heap.size us.len us w2 OO.out hu1 hu2 ⟨Nat.le_refl _, by omega⟩).mono ?_
  rintro e w' ⟨rfl, d', hO2, hP, hS, hB2⟩
  have O2 := Lib.hid hO2
  have P2 := Lib.hid hP
  have S2 := Lib.hid hS
  have B2 := Lib.hid (BB.out.trans hB2)
  clear hO2 hP hS hB2
  go_wp2
  go_ret
  exact ⟨us, _, d', rfl, TW.out, OK'.out, O2.out, P2.out, S2.out, B2.out⟩

set_option maxHeartbeats 1000000 in
theorem ins_nil (w : World) (p : Option Addr) (c : Nat) (fv : Value) :
    Calls Try.prog 100 #[.slice p 0 c, .int .i64 0, .int .i64 0, fv] w fun e w' => e = .returned (.tuple #[]) ∧ w' = w := by
  go_enter Try.func100, Try.ntmps100
  go_wp2_with fail
  go_loop [8] (fun s8 => s8 = .int .i64 1) (fun _ => 0)
  case atStart => exact rfl
  case round =>
    obtain rfl := hrel
    go_wp2
    go_end0
    exact ⟨rfl, rfl⟩

set_option maxHeartbeats 2000000 in
theorem stable_nil (w : World) (p : Option Addr) (c : Nat) (fv : Value) :
    Calls Try.prog 92 #[.slice p 0 c, .int .i64 0, fv] w fun e w' => e = .returned (.tuple #[]) ∧ w' = w := by
  go_enter Try.func92, Try.ntmps92
  go_wp2_with fail
  go_loop [7, 8] (fun s7 s8 => s7 = .int .i64 0 ∧ s8 = .int .i64 20) (fun _ _ => 0)
  case atStart => exact ⟨rfl, rfl⟩
  case round =>
    obtain ⟨rfl, rfl⟩ := hrel
    go_wp2_with fail
    refine (ins_nil w p c fv).mono ?_
    rintro e w' ⟨rfl, rfl⟩
    go_wp2_with fail
    go_loop [6] (fun s6 => s6 = .int .i64 20) (fun _ => 0)
    case atStart => exact rfl
    case round =>
      obtain rfl := hrel
      go_wp2
      go_end0
      exact ⟨rfl, rfl⟩

set_option maxHeartbeats 2000000 in
theorem sortStable_nil (w : World) (p : Option Addr) (c : Nat) (fv : Value) :
    Calls Try.prog 72 #[.slice p 0 c, fv] w fun e w' => e = .returned (.tuple #[]) ∧ w' = w := by
  go_enter Try.func72, Try.ntmps72
  go_wp2_with fail
  refine (stable_nil w p c fv).mono ?_
  rintro e w' ⟨rfl, rfl⟩
  go_wp2
  go_end0
  exact ⟨rfl, rfl⟩

set_option maxRecDepth 100000 in
set_option maxHeartbeats 4000000 in
theorem sort_nil (w : World) (p : Option Addr) (c : Nat) :
    Calls Try.prog 36 #[.slice p 0 c] w fun e w' => ∃ p' c', e = .returned (.slice p' 0 c') ∧ Below w.heap.size w w' := by
  go_enter Try.func36, Try.ntmps36
  go_wp2_with fail
  refine (oclones_any 1 .nil (by simp [Ts.size]) (by simp [Ts.size]) trivial w p c ⟨0, 0, .inl rfl, trivial⟩).mono ?_
  rintro e w2 ⟨us, p', c', rfl, -, htw, -, -, -, hB, -⟩
  have hu : us.len = 0 := Ts.twin_len _ _ htw
  rw [hu]
  have BB := Lib.hid hB
  clear hB hu htw
  go_wp2_with fail
  refine (sortStable_nil w2 p' c' _).mono ?_
  rintro e w' ⟨rfl, rfl⟩
  go_wp2
  go_ret
  exact ⟨p', c', rfl, BB.out⟩

/-- the list of a row's things -/
def tsF : (Nat → It) → Nat → Ts
  | _, 0 => .nil
  | d, n + 1 => .cons (d 0).k (d 0).s (d 0).n (d 0).p (d 0).c (d 0).us (tsF (fun i => d (i + 1)) n)

theorem tsF_len : ∀ (n : Nat) (d : Nat → It), (tsF d n).len = n
  | 0, _ => rfl
  | n + 1, d => by simp only [tsF, Ts.len, tsF_len n]

theorem tsF_lies {R N : Nat} {w : World} {d : Nat → It} (h : OwnF R N d w) : ∀ (n o : Nat), o + n ≤ N → (tsF (fun i => d (i + o)) n).lies w R (o * 4)
  | 0, _, _ => trivial
  | n + 1, o, ho => by
    obtain ⟨h0, h1, h2, h3, h4⟩ := h.row o (by omega)
    have ih := tsF_lies h n (o + 1) (by omega)
    refine ⟨by simpa using h0, by simpa using h1, by simpa using h2, by simpa using h3, ?_, ?_⟩
    · show Ts.At w (d (0 + o)).p (d (0 + o)).us
      rw [Nat.zero_add]
      exact h4.at
    rw [show o * 4 + 4 = (o + 1) * 4 by omega]
    have e : (fun i => d (i + 1 + o)) = (fun i => d (i + (o + 1))) := by funext i; congr 1; omega
    show (tsF (fun i => d (i + 1 + o)) n).lies w R ((o + 1) * 4)
    rw [e]
    exact ih

theorem tsF_at {R N : Nat} {w : World} {d : Nat → It} (h : OwnF R N d w) : Ts.At w (some ⟨R, 0, none⟩) (tsF d N) := by
  have := tsF_lies h N 0 (by omega)
  exact ⟨R, 0, .inr rfl, by simpa using this⟩

theorem tsF_ok {R N : Nat} {w : World} {d : Nat → It} (h : OwnF R N d w) : ∀ (n o : Nat), o + n ≤ N → (tsF (fun i => d (i + o)) n).ok
  | 0, _, _ => trivial
  | n + 1, o, ho => by
    obtain ⟨h1, h2, h3, h4, h5, h6, _⟩ := h.ok o (by omega)
    have ih := tsF_ok h n (o + 1) (by omega)
    have e : (fun i => d (i + 1 + o)) = (fun i => d (i + (o + 1))) := by funext i; congr 1; omega
    refine ⟨by simpa using h1, by simpa using h2, by simpa using h3, by simpa using h4, by simpa using h5, by simpa using h6, ?_⟩
    show (tsF (fun i => d (i + 1 + o)) n).ok
    rw [e]
    exact ih

/-- is a thing alike another? -/
def likeB (x y : It) : Bool := headAlike y.k x.k y.s x.s y.n x.n && alike y.us x.us

/-- how many of a list are alike a thing -/
def cntA (x : It) : Ts → Nat
  | .nil => 0
  | .cons k s n p c us r => (if likeB x ⟨k, s, n, p, c, us⟩ then 1 else 0) + cntA x r

theorem cntF_front {α : Type} (p : α → Bool) : ∀ (n : Nat) (d : Nat → α), cntF p (n + 1) d = (if p (d 0) then 1 else 0) + cntF p n (fun i => d (i + 1))
  | 0, d => by simp [cntF]
  | n + 1, d => by
    rw [cntF, cntF_front p n d, cntF]
    omega

theorem cntA_items (x : It) : ∀ (ts : Ts), cntA x ts = cntF (likeB x) ts.len (itemAt ts)
  | .nil => rfl
  | .cons k s n p c us r => by
    rw [cntA, Ts.len, cntF_front, cntA_items x r]
    rfl

theorem cntA_tsF (x : It) : ∀ (n : Nat) (d : Nat → It), cntA x (tsF d n) = cntF (likeB x) n d
  | 0, _ => rfl
  | n + 1, d => by
    rw [tsF, cntA, cntF_front, cntA_tsF x n]

theorem likeB_twin (x : It) {k : Int} {s : ByteArray} {n : Int} {p p' : Option Addr} {c c' : Nat} {u u' : Ts} (h : Ts.twin u u') : likeB x ⟨k, s, n, p, c, u⟩ = likeB x ⟨k, s, n, p', c', u'⟩ := by
  unfold likeB
  show (_ && alike u x.us) = (_ && alike u' x.us)
  rw [Ts.twin_alike _ _ _ h]

theorem cntA_twin (x : It) : ∀ {us ts : Ts}, Ts.twin us ts → cntA x us = cntA x ts
  | .nil, .nil, _ => rfl
  | .cons .., .cons .., ⟨rfl, rfl, rfl, h1, h2⟩ => by
    rw [cntA, cntA, cntA_twin x h2, likeB_twin x h1]
  | .nil, .cons .., h => h.elim
  | .cons .., .nil, h => h.elim

end Go.Proofs.Ytlhclblekpngnaa
