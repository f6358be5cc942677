import Derived.Test.YtflomdnjabgnaaaTe
/-
  Whether a name may be one.
-/
namespace Go.Proofs.Ytflomdnjabgnaaa
open Go.RowKit

/-- may a byte stand in a name? -/
def okB (x : Nat) : Prop := (32 ≤ x ∧ x ≤ 126) ∨ x = 9 ∨ x = 10
def nameOk (s : ByteArray) : Prop := s.size ≤ 32 ∧ ∀ (j : Nat) (h : j < s.size), okB s[j].toNat
open Classical in
noncomputable def nameB (s : ByteArray) : Bool := decide (nameOk s)

theorem nameB_true {s : ByteArray} (h : nameOk s) : nameB s = true := by simp [nameB, h]
theorem nameB_false {s : ByteArray} (h : ¬ nameOk s) : nameB s = false := by simp [nameB, h]

/-- the ways that a byte may be, as the walk asks -/
theorem byte_ways (x : Nat) :
    (okB x ∧ (((32 : Int) ≤ (x : Int) ∧ (x : Int) ≤ 126) ∨ ((x : Int) < 32 ∧ ((x : Int) != 9) = false) ∨ ((x : Int) < 32 ∧ ((x : Int) != 9) = true ∧ ((x : Int) != 10) = false))) ∨
    (¬ okB x ∧ (((x : Int) < 32 ∧ ((x : Int) != 9) = true ∧ ((x : Int) != 10) = true) ∨ (32 ≤ (x : Int) ∧ 126 < (x : Int) ∧ ((x : Int) != 9) = true ∧ ((x : Int) != 10) = true))) := by
  simp only [bne_iff_ne, bne_eq_false_iff_eq, ne_eq, okB]
  omega

set_option maxRecDepth 100000 in
set_option maxHeartbeats 1000000 in
theorem rname_any (s : ByteArray) (hs : s.size ≤ 140737488351232) (w : World) :
    Calls Try.prog 84 #[.string s] w fun e w' => e = .returned (.bool (nameB s)) ∧ w' = w := by
  go_enter Try.func84, Try.ntmps84
  go_wp2
  go_loop [3] (fun i => ∃ (j : Nat), j ≤ s.size ∧ i = .int .i64 j ∧ ∀ (m : Nat) (h : m < s.size), m < j → okB s[m].toNat) (fun i => s.size - (intOf i).toNat)
  case atStart => exact ⟨0, Nat.zero_le _, rfl, fun m h1 h2 => by omega⟩
  case round =>
    obtain ⟨j, hj, rfl, hr⟩ := hrel
    have R := Lib.hid hr
    clear hr
    by_cases hlt : j < s.size
    · rcases byte_ways s[j].toNat with ⟨hk, hw⟩ | ⟨hk, hw⟩
      · have RK : Hid (∀ (m : Nat) (h : m < s.size), m < j + 1 → okB s[m].toNat) := Lib.hid fun m h h1 => by
          by_cases e : m = j
          · subst e; exact hk
          · exact R.out m h (by omega)
        clear R hk
        rcases hw with ⟨h1, h2⟩ | ⟨h1, h2⟩ | ⟨h1, h2, h3⟩
        · go_wp2
          go_round
          case rel => exact ⟨j + 1, by omega, by go_num, RK.out⟩
          case measure => simp [intOf]; omega
        · go_wp2
          go_round
          case rel => exact ⟨j + 1, by omega, by go_num, RK.out⟩
          case measure => simp [intOf]; omega
        · go_wp2
          go_round
          case rel => exact ⟨j + 1, by omega, by go_num, RK.out⟩
          case measure => simp [intOf]; omega
      · have NB : Hid (nameB s = false) := Lib.hid (nameB_false fun h => hk (h.2 j hlt))
        clear R hk
        rcases hw with ⟨h1, h2, h3⟩ | ⟨h1, h2, h3, h4⟩
        · go_wp2
          go_ret
          exact ⟨by rw [NB.out]; rfl, rfl⟩
        · go_wp2
          go_ret
          exact ⟨by rw [NB.out]; rfl, rfl⟩
    · have hall : ∀ (m : Nat) (h : m < s.size), okB s[m].toNat := fun m h => R.out m h (by omega)
      have NB : Hid (nameB s = decide ((s.size : Int) ≤ 32)) := Lib.hid (by
        by_cases h : s.size ≤ 32
        · rw [nameB_true ⟨h, hall⟩]; simp; omega
        · rw [nameB_false (fun h' => h h'.1)]; simp; omega)
      clear R hall
      go_wp2
      go_ret
      exact ⟨by rw [NB.out]; rfl, rfl⟩

set_option maxRecDepth 100000 in
set_option maxHeartbeats 1000000 in
theorem tname_any (s : ByteArray) (hs : s.size ≤ 140737488351232) (w : World) :
    Calls Try.prog 88 #[.string s] w fun e w' => e = .returned (.bool (nameB s)) ∧ w' = w := by
  by_cases h : (32 : Int) < (s.size : Int)
  · have NB : Hid (nameB s = false) := Lib.hid (nameB_false fun h' => by have := h'.1; omega)
    go_enter Try.func88, Try.ntmps88
    go_wp2
    go_ret
    exact ⟨by rw [NB.out]; rfl, rfl⟩
  · go_enter Try.func88, Try.ntmps88
    go_wp2
    go_loop [10] (fun i => ∃ (j : Nat), j ≤ s.size ∧ i = .int .i64 j ∧ ∀ (m : Nat) (h : m < s.size), m < j → okB s[m].toNat) (fun i => s.size - (intOf i).toNat)
    case atStart => exact ⟨0, Nat.zero_le _, rfl, fun m h1 h2 => by omega⟩
    case round =>
      obtain ⟨j, hj, rfl, hr⟩ := hrel
      have R := Lib.hid hr
      clear hr
      by_cases hlt : j < s.size
      · rcases byte_ways s[j].toNat with ⟨hk, hw⟩ | ⟨hk, hw⟩
        · have RK : Hid (∀ (m : Nat) (h : m < s.size), m < j + 1 → okB s[m].toNat) := Lib.hid fun m h h1 => by
            by_cases e : m = j
            · subst e; exact hk
            · exact R.out m h (by omega)
          clear R hk
          rcases hw with ⟨h1, h2⟩ | ⟨h1, h2⟩ | ⟨h1, h2, h3⟩
          · go_wp2
            go_round
            case rel => exact ⟨j + 1, by omega, by go_num, RK.out⟩
            case measure => simp [intOf]; omega
          · go_wp2
            go_round
            case rel => exact ⟨j + 1, by omega, by go_num, RK.out⟩
            case measure => simp [intOf]; omega
          · go_wp2
            go_round
            case rel => exact ⟨j + 1, by omega, by go_num, RK.out⟩
            case measure => simp [intOf]; omega
        · have NB : Hid (nameB s = false) := Lib.hid (nameB_false fun h => hk (h.2 j hlt))
          clear R hk
          rcases hw with ⟨h1, h2, h3⟩ | ⟨h1, h2, h3, h4⟩
          · go_wp2
            go_ret
            exact ⟨by rw [NB.out]; rfl, rfl⟩
          · go_wp2
            go_ret
            exact ⟨by rw [NB.out]; rfl, rfl⟩
      · have NB : Hid (nameB s = true) := Lib.hid (nameB_true ⟨by omega, fun m h => R.out m h (by omega)⟩)
        clear R
        go_wp2
        go_ret
        exact ⟨by rw [NB.out]; rfl, rfl⟩
end Go.Proofs.Ytflomdnjabgnaaa
