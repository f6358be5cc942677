/-
  Layer 2: Sort of at most thirty terms.
-/
import Derived.Test.YtlhclblekpngnaaYf
namespace Go.Proofs.Ytlhclblekpngnaa
open Go.RowKit

theorem insIn_size (a : Nat) : ∀ (j : Nat) (ts : Ts), (insIn a j ts).size = ts.size
  | 0, _ => rfl
  | j + 1, ts => by
    unfold insIn
    split
    · rw [insIn_size a j, swap_size]
    · rfl

theorem insOut_size (a : Nat) : ∀ (m i : Nat) (ts : Ts), (insOut a m i ts).size = ts.size
  | 0, _, _ => rfl
  | m + 1, i, ts => by rw [insOut, insOut_size a m, insIn_size]

theorem itemAt_size {ts : Ts} {i : Nat} (h : i < ts.len) : (itemAt ts i).us.size + 1 ≤ ts.size := by
  obtain ⟨k, s, n, p, c, us, r, hd⟩ := Ts.drop_cons h
  have := Ts.drop_size i ts
  rw [hd] at this
  rw [itemAt_eq hd]
  simp only [Ts.size] at this
  show us.size + 1 ≤ ts.size
  omega

theorem insert_any' (R c a b : Nat) {N : Nat} {ai bi : Int} (us v : Ts) (w : World) (how : OwnS R us w) (hN : us.len = N) (hai : (a : Int) = ai) (hbi : (b : Int) = bi) (hab : a ≤ b) (hb : b ≤ us.len) (hsz : us.size ≤ 1000000) (hc : us.len ≤ c ∧ c ≤ 9223372036854775807) (hv : insOut a (b - (a + 1)) (a + 1) us = v) :
    Calls Try.prog 100 #[.slice (some ⟨R, 0, none⟩) N c, .int .i64 ai, .int .i64 bi, .func (.func 34) #[] #[]] w fun e w' => e = .returned (.tuple #[]) ∧ OwnS R v w' ∧ Below R w w' := by
  subst hN hai hbi hv
  exact insert_any R c a b us w how hab hb hsz hc

theorem sym_any' (R N c a m b : Nat) {ai mi bi : Int} (hN : N ≤ 1000000) (hc : N ≤ c ∧ c ≤ 9223372036854775807) (hai : (a : Int) = ai) (hmi : (m : Int) = mi) (hbi : (b : Int) = bi) (d : Nat → It) (w : World) (how : OwnF R N d w) (h1 : a < m) (h2 : m < b) (h3 : b ≤ N) (hsz : ∀ i, i < N → (d i).us.size ≤ 1000000) (hs1 : SortedF cmI d a m) (hs2 : SortedF cmI d m b) :
    Calls Try.prog 101 #[.slice (some ⟨R, 0, none⟩) N c, .int .i64 ai, .int .i64 mi, .int .i64 bi, .func (.func 34) #[] #[]] w fun e w' => e = .returned (.tuple #[]) ∧ ∃ d', OwnF R N d' w' ∧ PermF a b d d' ∧ SortedF cmI d' a b ∧ Below R w w' := by
  subst hai hmi hbi
  exact sym_any R N c hN hc _ a m b d w (Nat.le_refl _) how h1 h2 h3 hsz hs1 hs2

set_option maxRecDepth 100000 in
set_option maxHeartbeats 8000000 in
theorem stable_great (R c : Nat) (us : Ts) (w : World) (how : OwnS R us w) (h20 : 20 ≤ us.len) (h30 : us.len ≤ 30) (hsz : us.size ≤ 1000000) (hc : us.len ≤ c ∧ c ≤ 9223372036854775807) :
    Calls Try.prog 92 #[.slice (some ⟨R, 0, none⟩) us.len c, .int .i64 us.len, .func (.func 34) #[] #[]] w fun e w' => e = .returned (.tuple #[]) ∧ ∃ d', OwnF R us.len d' w' ∧ PermF 0 us.len (itemAt us) d' ∧ SortedF cmI d' 0 us.len ∧ Below R w w' := by
  have OW := Lib.hid how
  clear how
  obtain ⟨N, hN⟩ : ∃ N, us.len = N := ⟨_, rfl⟩
  obtain ⟨u1, hu1⟩ : ∃ u1, insOut 0 (20 - (0 + 1)) (0 + 1) us = u1 := ⟨_, rfl⟩
  obtain ⟨u2, hu2⟩ : ∃ u2, insOut 20 (N - (20 + 1)) (20 + 1) u1 = u2 := ⟨_, rfl⟩
  have l1 : u1.len = N := by rw [← hu1, insOut_len, hN]
  have l2 : u2.len = N := by rw [← hu2, insOut_len, l1]
  have z1 : u1.size = us.size := by rw [← hu1, insOut_size]
  have z2 : u2.size = us.size := by rw [← hu2, insOut_size, z1]
  obtain ⟨sa, pa⟩ := insOut_sorted (a := 0) (b := 20) (ts := us) (by omega) (by omega)
  rw [hu1] at sa pa
  obtain ⟨sb, pb⟩ := insOut_sorted (a := 20) (b := N) (ts := u1) (by omega) (by omega)
  rw [hu2] at sb pb
  have SA : Hid (SortedF cmI (itemAt u2) 0 20) := Lib.hid (sa.congr fun k _ hk => pb.out k (.inl hk))
  have SB := Lib.hid sb
  have PP : Hid (PermF 0 N (itemAt us) (itemAt u2)) := Lib.hid ((pa.wide (Nat.le_refl _) (by omega)).trans (pb.wide (by omega) (Nat.le_refl _)))
  have SZ : Hid (∀ i, i < N → (itemAt u2 i).us.size ≤ 1000000) := Lib.hid (fun i hi => by have := itemAt_size (ts := u2) (i := i) (by omega); omega)
  have LL := Lib.hid hN
  have L2 := Lib.hid l2
  have i1 : ∀ w, OwnS R us w → Calls Try.prog 100 #[.slice (some ⟨R, 0, none⟩) N c, .int .i64 0, .int .i64 20, .func (.func 34) #[] #[]] w fun e w' => e = .returned (.tuple #[]) ∧ OwnS R u1 w' ∧ Below R w w' := fun w h => insert_any' R c 0 20 us u1 w h hN (by omega) (by omega) (Nat.zero_le _) (by omega) hsz (by omega) hu1
  have i2 : ∀ w, OwnS R u1 w → Calls Try.prog 100 #[.slice (some ⟨R, 0, none⟩) N c, .int .i64 20, .int .i64 N, .func (.func 34) #[] #[]] w fun e w' => e = .returned (.tuple #[]) ∧ OwnS R u2 w' ∧ Below R w w' := fun w h => insert_any' R c 20 N u1 u2 w h l1 (by omega) rfl (by omega) (by omega) (by omega) (by omega) hu2
  have I1 := Lib.hid i1
  have I2 := Lib.hid i2
  clear i1 i2
  rw [hN] at h20 h30 hc ⊢
  clear hN hu1 hu2 l1 l2 z1 z2 sa pa sb pb
  have g1 : (20 : Int) ≤ (N : Int) := by omega
  have g2 : ¬ (40 : Int) ≤ (N : Int) := by omega
  have g3 : ¬ (40 : Int) < (N : Int) := by omega
  go_enter Try.func92, Try.ntmps92
  go_wp2_with fail
  go_loopw [7, 8] (fun s7 s8 wr => ∃ k : Nat, (k = 0 ∧ s7 = .int .i64 0 ∧ s8 = .int .i64 20 ∧ Hid (OwnS R us wr) ∧ Hid (Below R w wr)) ∨ (k = 1 ∧ s7 = .int .i64 20 ∧ s8 = .int .i64 40 ∧ Hid (OwnS R u1 wr) ∧ Hid (Below R w wr))) (fun _ s8 _ => 60 - (intOf s8).toNat)
  case atStart => exact ⟨0, .inl ⟨rfl, rfl, rfl, OW, Lib.hid (Below.refl _ _)⟩⟩
  case round =>
    obtain ⟨k, ⟨-, rfl, rfl, OS, BR⟩ | ⟨-, rfl, rfl, OS, BR⟩⟩ := hrel
    · go_wp2_with fail
      refine (I1.out _ OS.out).mono ?_
      rintro e w' ⟨rfl, hO, hB⟩
      have O2 := Lib.hid hO
      have B2 := Lib.hid (BR.out.trans hB)
      clear hO hB
      go_wp2
      go_roundw
      case rel => exact ⟨1, .inr ⟨rfl, rfl, rfl, O2, B2⟩⟩
      case measure => simp [intOf]
    · go_wp2_with fail
      refine (I2.out _ OS.out).mono ?_
      rintro e w' ⟨rfl, hO, hB⟩
      have hF := hO.toF
      rw [L2.out] at hF
      have O2 := Lib.hid hF
      have B2 := Lib.hid (BR.out.trans hB)
      clear hO hB hF OS BR
      go_wp2_with fail
      go_loopw [6] (fun s6 wr => ∃ k : Nat, (k = 0 ∧ s6 = .int .i64 20 ∧ Hid (OwnF R N (itemAt u2) wr) ∧ Hid (Below R w wr)) ∨ (k = 1 ∧ s6 = .int .i64 40 ∧ ∃ d', Hid (OwnF R N d' wr) ∧ Hid (PermF 0 N (itemAt us) d') ∧ Hid (SortedF cmI d' 0 N) ∧ Hid (Below R w wr))) (fun s6 _ => 60 - (intOf s6).toNat)
      case atStart => exact ⟨0, .inl ⟨rfl, rfl, O2, B2⟩⟩
      case round =>
        obtain ⟨k, ⟨-, rfl, OS, BR⟩ | ⟨-, rfl, d', OS, PE, SE, BR⟩⟩ := hrel
        · by_cases hgt : 20 < N
          · go_wp2_with fail
            go_loopw [7, 8] (fun s7 s8 wr => s7 = .int .i64 0 ∧ s8 = .int .i64 40 ∧ Hid (OwnF R N (itemAt u2) wr) ∧ Hid (Below R w wr)) (fun _ _ _ => 0)
            case atStart => exact ⟨rfl, rfl, OS, BR⟩
            case round =>
              obtain ⟨rfl, rfl, OS, BR⟩ := hrel
              go_wp2_with fail
              refine (sym_any' R N c 0 20 N (by omega) hc (by omega) (by omega) rfl (itemAt u2) _ OS.out (by omega) hgt (Nat.le_refl _) SZ.out SA.out SB.out).mono ?_
              rintro e w' ⟨rfl, d', hO, hP, hS, hB⟩
              have O3 := Lib.hid hO
              have P3 := Lib.hid (PP.out.trans hP)
              have S3 := Lib.hid hS
              have B3 := Lib.hid (BR.out.trans hB)
              clear hO hP hS hB
              go_wp2
              go_roundw
              case rel => exact ⟨1, .inr ⟨rfl, rfl, d', O3, P3, S3, B3⟩⟩
              case measure => simp [intOf]
          · have S3 : Hid (SortedF cmI (itemAt u2) 0 N) := Lib.hid (SA.out.sub (Nat.le_refl _) (by omega))
            go_wp2
            go_end0
            exact ⟨rfl, _, OS.out, PP.out, S3.out, BR.out⟩
        · go_wp2
          go_end0
          exact ⟨rfl, d', OS.out, PE.out, SE.out, BR.out⟩

end Go.Proofs.Ytlhclblekpngnaa
