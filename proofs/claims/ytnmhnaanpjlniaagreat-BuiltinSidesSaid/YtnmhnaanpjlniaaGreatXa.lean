import Derived.Test.YtnmhnaanpjlniaaGreatTa
import Derived.Test.YtnmhnaanpjlniaaGreatTw
import Derived.Deep.CutBlock
import Derived.StringKeys
import Derived.Lib.Bytealg
/-
  The table of what the builtins do: one call makes a new map in which each name has its function. (Written by gen_fe.py.)
-/
namespace Go.Proofs.YtnmhnaanpjlniaaGreat
open Go.RowKit Go.Maps Go.WideMaps

/-- memory has grown; old blocks but B are as they were -/
def Gr (B : Nat) (w w' : World) : Prop := w.heap.size ≤ w'.heap.size ∧ ∀ k, k < w.heap.size → k ≠ B → w'.heap[k]? = w.heap[k]?

theorem Gr.of_below {B : Nat} {w w' : World} (h : Below w.heap.size w w') : Gr B w w' := ⟨h.size, fun k hk _ => h.block k hk⟩
theorem Gr.of_grown {B : Nat} {w w' : World} (h : w.grownBy w' (some B)) : Gr B w w' := ⟨h.size, fun k hk hne => h.block k hk (fun e => hne (by cases e; rfl))⟩
theorem Gr.cell {B b o : Nat} {w w' : World} {v : Value} (h : Gr B w w') (hb : B < b) (hc : w.cell? ⟨b, o, none⟩ = some v) : w'.cell? ⟨b, o, none⟩ = some v :=
  (World.cell?_of_block (a := ⟨b, o, none⟩) (h.2 b (World.block_lt_of_cell? _ _ hc) (by omega))).trans hc

def IsV (u : Value) (v : Value) (_ : World) : Prop := v = u
/-- a closure of function F over one box that holds what I says -/
def ClO (B F : Nat) (I : Value → World → Prop) (v : Value) (w : World) : Prop := ∃ b u, v = .func (.func F) #[] #[.pointer (some ⟨b, 0, none⟩)] ∧ B < b ∧ b < w.heap.size ∧ w.cell? ⟨b, 0, none⟩ = some u ∧ I u w
/-- a list of kinds -/
def KindsAt (B : Nat) (l : List Int) (v : Value) (w : World) : Prop := ∃ g, v = .slice (some ⟨g, 0, none⟩) l.length l.length ∧ B < g ∧ ∀ (i : Nat) (h : i < l.length), w.cell? ⟨g, i, none⟩ = some (.int .u8 l[i])

def StG (B : Nat) (I : Value → World → Prop) : Prop := ∀ v w w', I v w → Gr B w w' → I v w'
theorem stG_is (B : Nat) (u : Value) : StG B (IsV u) := fun _ _ _ h _ => h
theorem stG_cl {B F : Nat} {I : Value → World → Prop} (h : StG B I) : StG B (ClO B F I) := by
  rintro v w w' ⟨b, u, h1, h2, h3, h4, h5⟩ hg
  exact ⟨b, u, h1, h2, Nat.lt_of_lt_of_le h3 hg.1, hg.cell h2 h4, h _ _ _ h5 hg⟩
theorem stG_kinds (B : Nat) (l : List Int) : StG B (KindsAt B l) := by
  rintro v w w' ⟨g, h1, h2, h3⟩ hg
  exact ⟨g, h1, h2, fun i h => hg.cell h2 (h3 i h)⟩

def doSym : Nat → ByteArray
  | 0 => ⟨#[116, 114, 117, 101]⟩
  | 1 => ⟨#[102, 97, 105, 108]⟩
  | 2 => ⟨#[61]⟩
  | 3 => ⟨#[92, 61]⟩
  | 4 => ⟨#[61, 61]⟩
  | 5 => ⟨#[92, 61, 61]⟩
  | 6 => ⟨#[64, 60]⟩
  | 7 => ⟨#[64, 62]⟩
  | 8 => ⟨#[64, 61, 60]⟩
  | 9 => ⟨#[64, 62, 61]⟩
  | 10 => ⟨#[105, 115]⟩
  | 11 => ⟨#[61, 58, 61]⟩
  | 12 => ⟨#[61, 92, 61]⟩
  | 13 => ⟨#[60]⟩
  | 14 => ⟨#[62]⟩
  | 15 => ⟨#[61, 60]⟩
  | 16 => ⟨#[62, 61]⟩
  | 17 => ⟨#[118, 97, 114]⟩
  | 18 => ⟨#[110, 111, 110, 118, 97, 114]⟩
  | 19 => ⟨#[97, 116, 111, 109]⟩
  | 20 => ⟨#[105, 110, 116, 101, 103, 101, 114]⟩
  | 21 => ⟨#[97, 116, 111, 109, 105, 99]⟩
  | 22 => ⟨#[99, 111, 109, 112, 111, 117, 110, 100]⟩
  | _ => ⟨#[]⟩
/-- what the function of each name is -/
def doCl (B : Nat) : Nat → Value → World → Prop
  | 0 => ClO B 105 (IsV (.func (.func 73) #[] #[]))
  | 1 => ClO B 105 (IsV (.func (.func 74) #[] #[]))
  | 2 => IsV (.func (.func 75) #[] #[])
  | 3 => ClO B 105 (IsV (.func (.func 76) #[] #[]))
  | 4 => ClO B 105 (ClO B 122 (ClO B 108 (IsV (.bool true))))
  | 5 => ClO B 105 (ClO B 122 (ClO B 108 (IsV (.bool false))))
  | 6 => ClO B 105 (ClO B 122 (ClO B 110 (IsV (.func (.func 79) #[] #[]))))
  | 7 => ClO B 105 (ClO B 122 (ClO B 110 (IsV (.func (.func 80) #[] #[]))))
  | 8 => ClO B 105 (ClO B 122 (ClO B 110 (IsV (.func (.func 81) #[] #[]))))
  | 9 => ClO B 105 (ClO B 122 (ClO B 110 (IsV (.func (.func 82) #[] #[]))))
  | 10 => IsV (.func (.func 83) #[] #[])
  | 11 => ClO B 105 (ClO B 112 (IsV (.func (.func 85) #[] #[])))
  | 12 => ClO B 105 (ClO B 112 (IsV (.func (.func 86) #[] #[])))
  | 13 => ClO B 105 (ClO B 112 (IsV (.func (.func 87) #[] #[])))
  | 14 => ClO B 105 (ClO B 112 (IsV (.func (.func 88) #[] #[])))
  | 15 => ClO B 105 (ClO B 112 (IsV (.func (.func 89) #[] #[])))
  | 16 => ClO B 105 (ClO B 112 (IsV (.func (.func 90) #[] #[])))
  | 17 => ClO B 105 (ClO B 113 (KindsAt B [1]))
  | 18 => ClO B 105 (ClO B 113 (KindsAt B [2, 3, 4]))
  | 19 => ClO B 105 (ClO B 113 (KindsAt B [3]))
  | 20 => ClO B 105 (ClO B 113 (KindsAt B [2]))
  | 21 => ClO B 105 (ClO B 113 (KindsAt B [2, 3]))
  | 22 => ClO B 105 (ClO B 113 (KindsAt B [4]))
  | _ => fun _ _ => False
theorem doCl_st (B : Nat) : ∀ j, j < 23 → StG B (doCl B j) := by
  intro j hj
  match j, hj with
  | 0, _ => exact stG_cl (stG_is _ _)
  | 1, _ => exact stG_cl (stG_is _ _)
  | 2, _ => exact stG_is _ _
  | 3, _ => exact stG_cl (stG_is _ _)
  | 4, _ => exact stG_cl (stG_cl (stG_cl (stG_is _ _)))
  | 5, _ => exact stG_cl (stG_cl (stG_cl (stG_is _ _)))
  | 6, _ => exact stG_cl (stG_cl (stG_cl (stG_is _ _)))
  | 7, _ => exact stG_cl (stG_cl (stG_cl (stG_is _ _)))
  | 8, _ => exact stG_cl (stG_cl (stG_cl (stG_is _ _)))
  | 9, _ => exact stG_cl (stG_cl (stG_cl (stG_is _ _)))
  | 10, _ => exact stG_is _ _
  | 11, _ => exact stG_cl (stG_cl (stG_is _ _))
  | 12, _ => exact stG_cl (stG_cl (stG_is _ _))
  | 13, _ => exact stG_cl (stG_cl (stG_is _ _))
  | 14, _ => exact stG_cl (stG_cl (stG_is _ _))
  | 15, _ => exact stG_cl (stG_cl (stG_is _ _))
  | 16, _ => exact stG_cl (stG_cl (stG_is _ _))
  | 17, _ => exact stG_cl (stG_cl (stG_kinds _ _))
  | 18, _ => exact stG_cl (stG_cl (stG_kinds _ _))
  | 19, _ => exact stG_cl (stG_cl (stG_kinds _ _))
  | 20, _ => exact stG_cl (stG_cl (stG_kinds _ _))
  | 21, _ => exact stG_cl (stG_cl (stG_kinds _ _))
  | 22, _ => exact stG_cl (stG_cl (stG_kinds _ _))
  | n + 23, h => omega

def doKey (j : Nat) : Lit := .string (doSym j).data.toList
theorem doKey_ne : ∀ j, j < 23 → ∀ i, i < j → (doKey j).sameKey (doKey i) = false := by decide
theorem doKey_self : ∀ j, j < 23 → (doKey j).sameKey (doKey j) = true := by decide
theorem strKeyed : Keyed Tryz.prog 9 := string_keyed Tryz.underlying9
theorem doKey_of (s : ByteArray) (hs : s.size ≤ maxLen) : keyOf Tryz.prog 9 (.string s) = some (.string s.data.toList) := keyOf_string_mk Tryz.underlying9 hs

/-- the first n entries are in -/
structure DoIn (B n : Nat) (l : List (Lit × Value)) (w : World) : Prop where
  map : MapL Tryz.prog 9 B l w
  len : l.length = n
  at_ : ∀ j, j < n → ∃ v, doCl B j v w ∧ valL l (doKey j) .nilFunc = v

theorem DoIn.gr {B n : Nat} {l : List (Lit × Value)} {w w' : World} (hn : n ≤ 23) (h : DoIn B n l w) (hB : Below w.heap.size w w') : DoIn B n l w' :=
  ⟨h.map.below hB, h.len, fun j hj => by
    obtain ⟨v, h1, h2⟩ := h.at_ j hj
    exact ⟨v, doCl_st B j (by omega) _ _ _ h1 (.of_below hB), h2⟩⟩

theorem DoIn.step {B n : Nat} {l : List (Lit × Value)} {w w' : World} {v : Value} (hn : n < 23) (h : DoIn B n l w) (hc : doCl B n v w) (hM : MapL Tryz.prog 9 B ((doKey n, v) :: l) w') (hg : w.grownBy w' (some B)) : DoIn B (n + 1) ((doKey n, v) :: l) w' := by
  refine ⟨hM, by simp only [List.length_cons, h.len], fun j hj => ?_⟩
  by_cases hjn : j = n
  · subst hjn
    refine ⟨v, doCl_st B j hn _ _ _ hc (.of_grown hg), ?_⟩
    unfold valL
    rw [if_pos (doKey_self j hn)]
  · obtain ⟨v', h1, h2⟩ := h.at_ j (by omega)
    refine ⟨v', doCl_st B j (by omega) _ _ _ h1 (.of_grown hg), ?_⟩
    unfold valL
    rw [if_neg (by rw [doKey_ne n hn j (by omega)]; simp)]
    exact h2

theorem box1c (w : World) (v : Value) (t : TypeId) : ∃ W, W = w.alloc (.cells #[v] t) ∧ W.heap.size = w.heap.size + 1 ∧ Below w.heap.size w W ∧ W.cell? ⟨w.heap.size, 0, none⟩ = some v := by
  refine ⟨_, rfl, by simp, (Below.refl _ _).alloc (Nat.le_refl _) _, by simp⟩

set_option maxRecDepth 100000 in
set_option maxHeartbeats 1000000 in
theorem test_mk (B : Nat) (g : Nat) (a b : Array Value) {I : Value → World → Prop} (w : World) (hb : B < w.heap.size) (hst : StG B I) (hI : I (.func (.func g) a b) w) :
    Calls Tryz.prog 72 #[.func (.func g) a b] w fun e w' => ∃ v, e = .returned v ∧ ClO B 105 I v w' ∧ Below w.heap.size w w' := by
  obtain ⟨W, hW, hs, hB, hc⟩ := box1c w (.func (.func g) a b) 111
  have HB := Lib.hid hB
  have HS := Lib.hid hs
  have HC := Lib.hid (⟨w.heap.size, _, rfl, hb, by omega, hc, hst _ _ _ hI (.of_below hB)⟩ : ClO B 105 (I) (.func (.func 105) #[] #[.pointer (some ⟨w.heap.size, 0, none⟩)]) W)
  have HW := Lib.hid hW
  clear hW hB hc hs
  go_enter Tryz.func72, Tryz.ntmps72
  go_wp2
  go_ret
  rw [← HW.out]
  exact ⟨_, rfl, HC.out, HB.out⟩

set_option maxRecDepth 100000 in
set_option maxHeartbeats 1000000 in
theorem applied_mk (B : Nat) (g : Nat) (a b : Array Value) {I : Value → World → Prop} (w : World) (hb : B < w.heap.size) (hst : StG B I) (hI : I (.func (.func g) a b) w) :
    Calls Tryz.prog 107 #[.func (.func g) a b] w fun e w' => ∃ v, e = .returned v ∧ ClO B 105 (ClO B 122 I) v w' ∧ Below w.heap.size w w' := by
  obtain ⟨W, hW, hs, hB, hc⟩ := box1c w (.func (.func g) a b) 135
  have HB := Lib.hid hB
  have HS := Lib.hid hs
  have HC := Lib.hid (⟨w.heap.size, _, rfl, hb, by omega, hc, hst _ _ _ hI (.of_below hB)⟩ : ClO B 122 (I) (.func (.func 122) #[] #[.pointer (some ⟨w.heap.size, 0, none⟩)]) W)
  have HW := Lib.hid hW
  clear hW hB hc hs
  go_enter Tryz.func107, Tryz.ntmps107
  go_wp2_with fail
  rw [← HW.out]
  refine (test_mk B _ _ _ W (by have := HS.out; omega) (stG_cl hst) HC.out).mono ?_
  rintro e w' ⟨v, rfl, hcl, hB'⟩
  have HCL := Lib.hid hcl
  have HB' := Lib.hid (HB.out.trans (hB'.mono HB.out.size))
  clear hcl hB'
  go_wp2
  go_ret
  exact ⟨_, rfl, HCL.out, HB'.out⟩

set_option maxRecDepth 100000 in
set_option maxHeartbeats 1000000 in
theorem same_mk (B : Nat) (x : Bool) (w : World) (hb : B < w.heap.size) :
    Calls Tryz.prog 77 #[.bool x] w fun e w' => ∃ v, e = .returned v ∧ ClO B 105 (ClO B 122 (ClO B 108 (IsV (.bool x)))) v w' ∧ Below w.heap.size w w' := by
  obtain ⟨W, hW, hs, hB, hc⟩ := box1c w (.bool x) 4
  have HB := Lib.hid hB
  have HS := Lib.hid hs
  have HC := Lib.hid (⟨w.heap.size, _, rfl, hb, by omega, hc, rfl⟩ : ClO B 108 (IsV (.bool x)) (.func (.func 108) #[] #[.pointer (some ⟨w.heap.size, 0, none⟩)]) W)
  have HW := Lib.hid hW
  clear hW hB hc hs
  go_enter Tryz.func77, Tryz.ntmps77
  go_wp2_with fail
  rw [← HW.out]
  refine (applied_mk B _ _ _ W (by have := HS.out; omega) (stG_cl (stG_is _ _)) HC.out).mono ?_
  rintro e w' ⟨v, rfl, hcl, hB'⟩
  have HCL := Lib.hid hcl
  have HB' := Lib.hid (HB.out.trans (hB'.mono HB.out.size))
  clear hcl hB'
  go_wp2
  go_ret
  exact ⟨_, rfl, HCL.out, HB'.out⟩

set_option maxRecDepth 100000 in
set_option maxHeartbeats 1000000 in
theorem ordered_mk (B : Nat) (g : Nat) (w : World) (hb : B < w.heap.size) :
    Calls Tryz.prog 78 #[.func (.func g) #[] #[]] w fun e w' => ∃ v, e = .returned v ∧ ClO B 105 (ClO B 122 (ClO B 110 (IsV (.func (.func g) #[] #[])))) v w' ∧ Below w.heap.size w w' := by
  obtain ⟨W, hW, hs, hB, hc⟩ := box1c w (.func (.func g) #[] #[]) 114
  have HB := Lib.hid hB
  have HS := Lib.hid hs
  have HC := Lib.hid (⟨w.heap.size, _, rfl, hb, by omega, hc, rfl⟩ : ClO B 110 (IsV (.func (.func g) #[] #[])) (.func (.func 110) #[] #[.pointer (some ⟨w.heap.size, 0, none⟩)]) W)
  have HW := Lib.hid hW
  clear hW hB hc hs
  go_enter Tryz.func78, Tryz.ntmps78
  go_wp2_with fail
  rw [← HW.out]
  refine (applied_mk B _ _ _ W (by have := HS.out; omega) (stG_cl (stG_is _ _)) HC.out).mono ?_
  rintro e w' ⟨v, rfl, hcl, hB'⟩
  have HCL := Lib.hid hcl
  have HB' := Lib.hid (HB.out.trans (hB'.mono HB.out.size))
  clear hcl hB'
  go_wp2
  go_ret
  exact ⟨_, rfl, HCL.out, HB'.out⟩

set_option maxRecDepth 100000 in
set_option maxHeartbeats 1000000 in
theorem compared_mk (B : Nat) (g : Nat) (w : World) (hb : B < w.heap.size) :
    Calls Tryz.prog 84 #[.func (.func g) #[] #[]] w fun e w' => ∃ v, e = .returned v ∧ ClO B 105 (ClO B 112 (IsV (.func (.func g) #[] #[]))) v w' ∧ Below w.heap.size w w' := by
  obtain ⟨W, hW, hs, hB, hc⟩ := box1c w (.func (.func g) #[] #[]) 116
  have HB := Lib.hid hB
  have HS := Lib.hid hs
  have HC := Lib.hid (⟨w.heap.size, _, rfl, hb, by omega, hc, rfl⟩ : ClO B 112 (IsV (.func (.func g) #[] #[])) (.func (.func 112) #[] #[.pointer (some ⟨w.heap.size, 0, none⟩)]) W)
  have HW := Lib.hid hW
  clear hW hB hc hs
  go_enter Tryz.func84, Tryz.ntmps84
  go_wp2_with fail
  rw [← HW.out]
  refine (test_mk B _ _ _ W (by have := HS.out; omega) (stG_cl (stG_is _ _)) HC.out).mono ?_
  rintro e w' ⟨v, rfl, hcl, hB'⟩
  have HCL := Lib.hid hcl
  have HB' := Lib.hid (HB.out.trans (hB'.mono HB.out.size))
  clear hcl hB'
  go_wp2
  go_ret
  exact ⟨_, rfl, HCL.out, HB'.out⟩

set_option maxRecDepth 100000 in
set_option maxHeartbeats 1000000 in
theorem kind_mk (B : Nat) (l : List Int) (p : Option Addr) (n c : Nat) (w : World) (hb : B < w.heap.size) (hk : KindsAt B l (.slice p n c) w) :
    Calls Tryz.prog 91 #[.slice p n c] w fun e w' => ∃ v, e = .returned v ∧ ClO B 105 (ClO B 113 (KindsAt B l)) v w' ∧ Below w.heap.size w w' := by
  obtain ⟨W, hW, hs, hB, hc⟩ := box1c w (.slice p n c) 137
  have HB := Lib.hid hB
  have HS := Lib.hid hs
  have HC := Lib.hid (⟨w.heap.size, _, rfl, hb, by omega, hc, stG_kinds B l _ _ _ hk (.of_below hB)⟩ : ClO B 113 (KindsAt B l) (.func (.func 113) #[] #[.pointer (some ⟨w.heap.size, 0, none⟩)]) W)
  have HW := Lib.hid hW
  clear hW hB hc hs
  go_enter Tryz.func91, Tryz.ntmps91
  go_wp2_with fail
  rw [← HW.out]
  refine (test_mk B _ _ _ W (by have := HS.out; omega) (stG_cl (stG_kinds _ _)) HC.out).mono ?_
  rintro e w' ⟨v, rfl, hcl, hB'⟩
  have HCL := Lib.hid hcl
  have HB' := Lib.hid (HB.out.trans (hB'.mono HB.out.size))
  clear hcl hB'
  go_wp2
  go_ret
  exact ⟨_, rfl, HCL.out, HB'.out⟩

set_option maxRecDepth 100000 in
set_option maxHeartbeats 8000000 in
theorem doings_any (w : World) : Calls Tryz.prog 40 #[] w fun e w' => e = .returned (.map (some w.heap.size)) ∧ Below w.heap.size w w' ∧ ∃ l, DoIn w.heap.size 23 l w' := by
  have hmm := @run_makeMap Tryz.prog
  go_enter Tryz.func40, Tryz.ntmps40
  go_wp2_with fail
  obtain ⟨W, hW⟩ : ∃ W, W = w.alloc (.map #[] 0) := ⟨_, rfl⟩
  rw [← hW]
  have BW := Lib.hid (by rw [hW]; exact (Below.refl _ _).alloc (Nat.le_refl _) _ : Below w.heap.size w W)
  have DI := Lib.hid (⟨by rw [hW]; exact MapL.made _ _ _, rfl, fun j hj => by omega⟩ : DoIn w.heap.size 0 [] W)
  clear hW
  refine (test_mk w.heap.size 73 #[] #[] _ DI.out.map.lt (stG_is _ _) rfl).mono ?_
  rintro e C0 ⟨v0, rfl, hcl, hB⟩
  have CL := Lib.hid hcl
  replace DI := Lib.hid (DI.out.gr (by omega) hB)
  replace BW := Lib.hid (BW.out.trans (hB.mono BW.out.size))
  clear hcl hB
  go_wp2_with (first
    | (refine wpList_insertL _ rfl _ _ _ 72 rfl 9 71 strKeyed Tryz.underlying72 w.heap.size _ rfl DI.out.map (by rw [DI.out.len]; decide) _ _ (doKey 0) rfl rfl (doKey_of _ (by decide)) ?_; intro W0 hM hg; replace DI := Lib.hid (DI.out.step (by omega) (v := v0) CL.out hM hg); replace BW := Lib.hid (BW.out.grown hg BW.out.size (by simp)); clear hM hg))
  refine (test_mk w.heap.size 74 #[] #[] _ DI.out.map.lt (stG_is _ _) rfl).mono ?_
  rintro e C1 ⟨v1, rfl, hcl, hB⟩
  have CL := Lib.hid hcl
  replace DI := Lib.hid (DI.out.gr (by omega) hB)
  replace BW := Lib.hid (BW.out.trans (hB.mono BW.out.size))
  clear hcl hB
  go_wp2_with (first
    | (refine wpList_insertL _ rfl _ _ _ 72 rfl 9 71 strKeyed Tryz.underlying72 w.heap.size _ rfl DI.out.map (by rw [DI.out.len]; decide) _ _ (doKey 1) rfl rfl (doKey_of _ (by decide)) ?_; intro W1 hM hg; replace DI := Lib.hid (DI.out.step (by omega) (v := v1) CL.out hM hg); replace BW := Lib.hid (BW.out.grown hg BW.out.size (by simp)); clear hM hg)
    | (refine wpList_insertL _ rfl _ _ _ 72 rfl 9 71 strKeyed Tryz.underlying72 w.heap.size _ rfl DI.out.map (by rw [DI.out.len]; decide) _ _ (doKey 2) rfl rfl (doKey_of _ (by decide)) ?_; intro W2 hM hg; replace DI := Lib.hid (DI.out.step (by omega) (v := (.func (.func 75) #[] #[])) rfl hM hg); replace BW := Lib.hid (BW.out.grown hg BW.out.size (by simp)); clear hM hg))
  refine (test_mk w.heap.size 76 #[] #[] _ DI.out.map.lt (stG_is _ _) rfl).mono ?_
  rintro e C3 ⟨v3, rfl, hcl, hB⟩
  have CL := Lib.hid hcl
  replace DI := Lib.hid (DI.out.gr (by omega) hB)
  replace BW := Lib.hid (BW.out.trans (hB.mono BW.out.size))
  clear hcl hB
  go_wp2_with (first
    | (refine wpList_insertL _ rfl _ _ _ 72 rfl 9 71 strKeyed Tryz.underlying72 w.heap.size _ rfl DI.out.map (by rw [DI.out.len]; decide) _ _ (doKey 3) rfl rfl (doKey_of _ (by decide)) ?_; intro W3 hM hg; replace DI := Lib.hid (DI.out.step (by omega) (v := v3) CL.out hM hg); replace BW := Lib.hid (BW.out.grown hg BW.out.size (by simp)); clear hM hg))
  refine (same_mk w.heap.size true _ DI.out.map.lt).mono ?_
  rintro e C4 ⟨v4, rfl, hcl, hB⟩
  have CL := Lib.hid hcl
  replace DI := Lib.hid (DI.out.gr (by omega) hB)
  replace BW := Lib.hid (BW.out.trans (hB.mono BW.out.size))
  clear hcl hB
  go_wp2_with (first
    | (refine wpList_insertL _ rfl _ _ _ 72 rfl 9 71 strKeyed Tryz.underlying72 w.heap.size _ rfl DI.out.map (by rw [DI.out.len]; decide) _ _ (doKey 4) rfl rfl (doKey_of _ (by decide)) ?_; intro W4 hM hg; replace DI := Lib.hid (DI.out.step (by omega) (v := v4) CL.out hM hg); replace BW := Lib.hid (BW.out.grown hg BW.out.size (by simp)); clear hM hg))
  refine (same_mk w.heap.size false _ DI.out.map.lt).mono ?_
  rintro e C5 ⟨v5, rfl, hcl, hB⟩
  have CL := Lib.hid hcl
  replace DI := Lib.hid (DI.out.gr (by omega) hB)
  replace BW := Lib.hid (BW.out.trans (hB.mono BW.out.size))
  clear hcl hB
  go_wp2_with (first
    | (refine wpList_insertL _ rfl _ _ _ 72 rfl 9 71 strKeyed Tryz.underlying72 w.heap.size _ rfl DI.out.map (by rw [DI.out.len]; decide) _ _ (doKey 5) rfl rfl (doKey_of _ (by decide)) ?_; intro W5 hM hg; replace DI := Lib.hid (DI.out.step (by omega) (v := v5) CL.out hM hg); replace BW := Lib.hid (BW.out.grown hg BW.out.size (by simp)); clear hM hg))
  refine (ordered_mk w.heap.size 79 _ DI.out.map.lt).mono ?_
  rintro e C6 ⟨v6, rfl, hcl, hB⟩
  have CL := Lib.hid hcl
  replace DI := Lib.hid (DI.out.gr (by omega) hB)
  replace BW := Lib.hid (BW.out.trans (hB.mono BW.out.size))
  clear hcl hB
  go_wp2_with (first
    | (refine wpList_insertL _ rfl _ _ _ 72 rfl 9 71 strKeyed Tryz.underlying72 w.heap.size _ rfl DI.out.map (by rw [DI.out.len]; decide) _ _ (doKey 6) rfl rfl (doKey_of _ (by decide)) ?_; intro W6 hM hg; replace DI := Lib.hid (DI.out.step (by omega) (v := v6) CL.out hM hg); replace BW := Lib.hid (BW.out.grown hg BW.out.size (by simp)); clear hM hg))
  refine (ordered_mk w.heap.size 80 _ DI.out.map.lt).mono ?_
  rintro e C7 ⟨v7, rfl, hcl, hB⟩
  have CL := Lib.hid hcl
  replace DI := Lib.hid (DI.out.gr (by omega) hB)
  replace BW := Lib.hid (BW.out.trans (hB.mono BW.out.size))
  clear hcl hB
  go_wp2_with (first
    | (refine wpList_insertL _ rfl _ _ _ 72 rfl 9 71 strKeyed Tryz.underlying72 w.heap.size _ rfl DI.out.map (by rw [DI.out.len]; decide) _ _ (doKey 7) rfl rfl (doKey_of _ (by decide)) ?_; intro W7 hM hg; replace DI := Lib.hid (DI.out.step (by omega) (v := v7) CL.out hM hg); replace BW := Lib.hid (BW.out.grown hg BW.out.size (by simp)); clear hM hg))
  refine (ordered_mk w.heap.size 81 _ DI.out.map.lt).mono ?_
  rintro e C8 ⟨v8, rfl, hcl, hB⟩
  have CL := Lib.hid hcl
  replace DI := Lib.hid (DI.out.gr (by omega) hB)
  replace BW := Lib.hid (BW.out.trans (hB.mono BW.out.size))
  clear hcl hB
  go_wp2_with (first
    | (refine wpList_insertL _ rfl _ _ _ 72 rfl 9 71 strKeyed Tryz.underlying72 w.heap.size _ rfl DI.out.map (by rw [DI.out.len]; decide) _ _ (doKey 8) rfl rfl (doKey_of _ (by decide)) ?_; intro W8 hM hg; replace DI := Lib.hid (DI.out.step (by omega) (v := v8) CL.out hM hg); replace BW := Lib.hid (BW.out.grown hg BW.out.size (by simp)); clear hM hg))
  refine (ordered_mk w.heap.size 82 _ DI.out.map.lt).mono ?_
  rintro e C9 ⟨v9, rfl, hcl, hB⟩
  have CL := Lib.hid hcl
  replace DI := Lib.hid (DI.out.gr (by omega) hB)
  replace BW := Lib.hid (BW.out.trans (hB.mono BW.out.size))
  clear hcl hB
  go_wp2_with (first
    | (refine wpList_insertL _ rfl _ _ _ 72 rfl 9 71 strKeyed Tryz.underlying72 w.heap.size _ rfl DI.out.map (by rw [DI.out.len]; decide) _ _ (doKey 9) rfl rfl (doKey_of _ (by decide)) ?_; intro W9 hM hg; replace DI := Lib.hid (DI.out.step (by omega) (v := v9) CL.out hM hg); replace BW := Lib.hid (BW.out.grown hg BW.out.size (by simp)); clear hM hg)
    | (refine wpList_insertL _ rfl _ _ _ 72 rfl 9 71 strKeyed Tryz.underlying72 w.heap.size _ rfl DI.out.map (by rw [DI.out.len]; decide) _ _ (doKey 10) rfl rfl (doKey_of _ (by decide)) ?_; intro W10 hM hg; replace DI := Lib.hid (DI.out.step (by omega) (v := (.func (.func 83) #[] #[])) rfl hM hg); replace BW := Lib.hid (BW.out.grown hg BW.out.size (by simp)); clear hM hg))
  refine (compared_mk w.heap.size 85 _ DI.out.map.lt).mono ?_
  rintro e C11 ⟨v11, rfl, hcl, hB⟩
  have CL := Lib.hid hcl
  replace DI := Lib.hid (DI.out.gr (by omega) hB)
  replace BW := Lib.hid (BW.out.trans (hB.mono BW.out.size))
  clear hcl hB
  go_wp2_with (first
    | (refine wpList_insertL _ rfl _ _ _ 72 rfl 9 71 strKeyed Tryz.underlying72 w.heap.size _ rfl DI.out.map (by rw [DI.out.len]; decide) _ _ (doKey 11) rfl rfl (doKey_of _ (by decide)) ?_; intro W11 hM hg; replace DI := Lib.hid (DI.out.step (by omega) (v := v11) CL.out hM hg); replace BW := Lib.hid (BW.out.grown hg BW.out.size (by simp)); clear hM hg))
  refine (compared_mk w.heap.size 86 _ DI.out.map.lt).mono ?_
  rintro e C12 ⟨v12, rfl, hcl, hB⟩
  have CL := Lib.hid hcl
  replace DI := Lib.hid (DI.out.gr (by omega) hB)
  replace BW := Lib.hid (BW.out.trans (hB.mono BW.out.size))
  clear hcl hB
  go_wp2_with (first
    | (refine wpList_insertL _ rfl _ _ _ 72 rfl 9 71 strKeyed Tryz.underlying72 w.heap.size _ rfl DI.out.map (by rw [DI.out.len]; decide) _ _ (doKey 12) rfl rfl (doKey_of _ (by decide)) ?_; intro W12 hM hg; replace DI := Lib.hid (DI.out.step (by omega) (v := v12) CL.out hM hg); replace BW := Lib.hid (BW.out.grown hg BW.out.size (by simp)); clear hM hg))
  refine (compared_mk w.heap.size 87 _ DI.out.map.lt).mono ?_
  rintro e C13 ⟨v13, rfl, hcl, hB⟩
  have CL := Lib.hid hcl
  replace DI := Lib.hid (DI.out.gr (by omega) hB)
  replace BW := Lib.hid (BW.out.trans (hB.mono BW.out.size))
  clear hcl hB
  go_wp2_with (first
    | (refine wpList_insertL _ rfl _ _ _ 72 rfl 9 71 strKeyed Tryz.underlying72 w.heap.size _ rfl DI.out.map (by rw [DI.out.len]; decide) _ _ (doKey 13) rfl rfl (doKey_of _ (by decide)) ?_; intro W13 hM hg; replace DI := Lib.hid (DI.out.step (by omega) (v := v13) CL.out hM hg); replace BW := Lib.hid (BW.out.grown hg BW.out.size (by simp)); clear hM hg))
  refine (compared_mk w.heap.size 88 _ DI.out.map.lt).mono ?_
  rintro e C14 ⟨v14, rfl, hcl, hB⟩
  have CL := Lib.hid hcl
  replace DI := Lib.hid (DI.out.gr (by omega) hB)
  replace BW := Lib.hid (BW.out.trans (hB.mono BW.out.size))
  clear hcl hB
  go_wp2_with (first
    | (refine wpList_insertL _ rfl _ _ _ 72 rfl 9 71 strKeyed Tryz.underlying72 w.heap.size _ rfl DI.out.map (by rw [DI.out.len]; decide) _ _ (doKey 14) rfl rfl (doKey_of _ (by decide)) ?_; intro W14 hM hg; replace DI := Lib.hid (DI.out.step (by omega) (v := v14) CL.out hM hg); replace BW := Lib.hid (BW.out.grown hg BW.out.size (by simp)); clear hM hg))
  refine (compared_mk w.heap.size 89 _ DI.out.map.lt).mono ?_
  rintro e C15 ⟨v15, rfl, hcl, hB⟩
  have CL := Lib.hid hcl
  replace DI := Lib.hid (DI.out.gr (by omega) hB)
  replace BW := Lib.hid (BW.out.trans (hB.mono BW.out.size))
  clear hcl hB
  go_wp2_with (first
    | (refine wpList_insertL _ rfl _ _ _ 72 rfl 9 71 strKeyed Tryz.underlying72 w.heap.size _ rfl DI.out.map (by rw [DI.out.len]; decide) _ _ (doKey 15) rfl rfl (doKey_of _ (by decide)) ?_; intro W15 hM hg; replace DI := Lib.hid (DI.out.step (by omega) (v := v15) CL.out hM hg); replace BW := Lib.hid (BW.out.grown hg BW.out.size (by simp)); clear hM hg))
  refine (compared_mk w.heap.size 90 _ DI.out.map.lt).mono ?_
  rintro e C16 ⟨v16, rfl, hcl, hB⟩
  have CL := Lib.hid hcl
  replace DI := Lib.hid (DI.out.gr (by omega) hB)
  replace BW := Lib.hid (BW.out.trans (hB.mono BW.out.size))
  clear hcl hB
  go_wp2_with (first
    | (refine wpList_insertL _ rfl _ _ _ 72 rfl 9 71 strKeyed Tryz.underlying72 w.heap.size _ rfl DI.out.map (by rw [DI.out.len]; decide) _ _ (doKey 16) rfl rfl (doKey_of _ (by decide)) ?_; intro W16 hM hg; replace DI := Lib.hid (DI.out.step (by omega) (v := v16) CL.out hM hg); replace BW := Lib.hid (BW.out.grown hg BW.out.size (by simp)); clear hM hg))
  obtain ⟨K17, hK17⟩ : ∃ W_, W_ = W16.alloc (.cells #[.int .u8 1] 5) := ⟨_, rfl⟩
  rw [← hK17]
  have hB17 : Below W16.heap.size W16 K17 := by rw [hK17]; exact (Below.refl _ _).alloc (Nat.le_refl _) _
  have KI17 := Lib.hid (⟨W16.heap.size, rfl, DI.out.map.lt, fun i h => by
    rw [hK17]
    match i, h with
    | 0, _ => simp⟩ : KindsAt w.heap.size [1] (.slice (some ⟨W16.heap.size, 0, none⟩) 1 1) K17)
  replace DI := Lib.hid (DI.out.gr (by omega) hB17)
  replace BW := Lib.hid (BW.out.trans (hB17.mono BW.out.size))
  clear hB17 hK17
  refine (kind_mk w.heap.size [1] _ _ _ _ DI.out.map.lt KI17.out).mono ?_
  rintro e C17 ⟨v17, rfl, hcl, hB⟩
  have CL := Lib.hid hcl
  replace DI := Lib.hid (DI.out.gr (by omega) hB)
  replace BW := Lib.hid (BW.out.trans (hB.mono BW.out.size))
  clear hcl hB
  go_wp2_with (first
    | (refine wpList_insertL _ rfl _ _ _ 72 rfl 9 71 strKeyed Tryz.underlying72 w.heap.size _ rfl DI.out.map (by rw [DI.out.len]; decide) _ _ (doKey 17) rfl rfl (doKey_of _ (by decide)) ?_; intro W17 hM hg; replace DI := Lib.hid (DI.out.step (by omega) (v := v17) CL.out hM hg); replace BW := Lib.hid (BW.out.grown hg BW.out.size (by simp)); clear hM hg))
  obtain ⟨K18, hK18⟩ : ∃ W_, W_ = W17.alloc (.cells #[.int .u8 2, .int .u8 3, .int .u8 4] 5) := ⟨_, rfl⟩
  rw [← hK18]
  have hB18 : Below W17.heap.size W17 K18 := by rw [hK18]; exact (Below.refl _ _).alloc (Nat.le_refl _) _
  have KI18 := Lib.hid (⟨W17.heap.size, rfl, DI.out.map.lt, fun i h => by
    rw [hK18]
    match i, h with
    | 0, _ | 1, _ | 2, _ => simp⟩ : KindsAt w.heap.size [2, 3, 4] (.slice (some ⟨W17.heap.size, 0, none⟩) 3 3) K18)
  replace DI := Lib.hid (DI.out.gr (by omega) hB18)
  replace BW := Lib.hid (BW.out.trans (hB18.mono BW.out.size))
  clear hB18 hK18
  refine (kind_mk w.heap.size [2, 3, 4] _ _ _ _ DI.out.map.lt KI18.out).mono ?_
  rintro e C18 ⟨v18, rfl, hcl, hB⟩
  have CL := Lib.hid hcl
  replace DI := Lib.hid (DI.out.gr (by omega) hB)
  replace BW := Lib.hid (BW.out.trans (hB.mono BW.out.size))
  clear hcl hB
  go_wp2_with (first
    | (refine wpList_insertL _ rfl _ _ _ 72 rfl 9 71 strKeyed Tryz.underlying72 w.heap.size _ rfl DI.out.map (by rw [DI.out.len]; decide) _ _ (doKey 18) rfl rfl (doKey_of _ (by decide)) ?_; intro W18 hM hg; replace DI := Lib.hid (DI.out.step (by omega) (v := v18) CL.out hM hg); replace BW := Lib.hid (BW.out.grown hg BW.out.size (by simp)); clear hM hg))
  obtain ⟨K19, hK19⟩ : ∃ W_, W_ = W18.alloc (.cells #[.int .u8 3] 5) := ⟨_, rfl⟩
  rw [← hK19]
  have hB19 : Below W18.heap.size W18 K19 := by rw [hK19]; exact (Below.refl _ _).alloc (Nat.le_refl _) _
  have KI19 := Lib.hid (⟨W18.heap.size, rfl, DI.out.map.lt, fun i h => by
    rw [hK19]
    match i, h with
    | 0, _ => simp⟩ : KindsAt w.heap.size [3] (.slice (some ⟨W18.heap.size, 0, none⟩) 1 1) K19)
  replace DI := Lib.hid (DI.out.gr (by omega) hB19)
  replace BW := Lib.hid (BW.out.trans (hB19.mono BW.out.size))
  clear hB19 hK19
  refine (kind_mk w.heap.size [3] _ _ _ _ DI.out.map.lt KI19.out).mono ?_
  rintro e C19 ⟨v19, rfl, hcl, hB⟩
  have CL := Lib.hid hcl
  replace DI := Lib.hid (DI.out.gr (by omega) hB)
  replace BW := Lib.hid (BW.out.trans (hB.mono BW.out.size))
  clear hcl hB
  go_wp2_with (first
    | (refine wpList_insertL _ rfl _ _ _ 72 rfl 9 71 strKeyed Tryz.underlying72 w.heap.size _ rfl DI.out.map (by rw [DI.out.len]; decide) _ _ (doKey 19) rfl rfl (doKey_of _ (by decide)) ?_; intro W19 hM hg; replace DI := Lib.hid (DI.out.step (by omega) (v := v19) CL.out hM hg); replace BW := Lib.hid (BW.out.grown hg BW.out.size (by simp)); clear hM hg))
  obtain ⟨K20, hK20⟩ : ∃ W_, W_ = W19.alloc (.cells #[.int .u8 2] 5) := ⟨_, rfl⟩
  rw [← hK20]
  have hB20 : Below W19.heap.size W19 K20 := by rw [hK20]; exact (Below.refl _ _).alloc (Nat.le_refl _) _
  have KI20 := Lib.hid (⟨W19.heap.size, rfl, DI.out.map.lt, fun i h => by
    rw [hK20]
    match i, h with
    | 0, _ => simp⟩ : KindsAt w.heap.size [2] (.slice (some ⟨W19.heap.size, 0, none⟩) 1 1) K20)
  replace DI := Lib.hid (DI.out.gr (by omega) hB20)
  replace BW := Lib.hid (BW.out.trans (hB20.mono BW.out.size))
  clear hB20 hK20
  refine (kind_mk w.heap.size [2] _ _ _ _ DI.out.map.lt KI20.out).mono ?_
  rintro e C20 ⟨v20, rfl, hcl, hB⟩
  have CL := Lib.hid hcl
  replace DI := Lib.hid (DI.out.gr (by omega) hB)
  replace BW := Lib.hid (BW.out.trans (hB.mono BW.out.size))
  clear hcl hB
  go_wp2_with (first
    | (refine wpList_insertL _ rfl _ _ _ 72 rfl 9 71 strKeyed Tryz.underlying72 w.heap.size _ rfl DI.out.map (by rw [DI.out.len]; decide) _ _ (doKey 20) rfl rfl (doKey_of _ (by decide)) ?_; intro W20 hM hg; replace DI := Lib.hid (DI.out.step (by omega) (v := v20) CL.out hM hg); replace BW := Lib.hid (BW.out.grown hg BW.out.size (by simp)); clear hM hg))
  obtain ⟨K21, hK21⟩ : ∃ W_, W_ = W20.alloc (.cells #[.int .u8 2, .int .u8 3] 5) := ⟨_, rfl⟩
  rw [← hK21]
  have hB21 : Below W20.heap.size W20 K21 := by rw [hK21]; exact (Below.refl _ _).alloc (Nat.le_refl _) _
  have KI21 := Lib.hid (⟨W20.heap.size, rfl, DI.out.map.lt, fun i h => by
    rw [hK21]
    match i, h with
    | 0, _ | 1, _ => simp⟩ : KindsAt w.heap.size [2, 3] (.slice (some ⟨W20.heap.size, 0, none⟩) 2 2) K21)
  replace DI := Lib.hid (DI.out.gr (by omega) hB21)
  replace BW := Lib.hid (BW.out.trans (hB21.mono BW.out.size))
  clear hB21 hK21
  refine (kind_mk w.heap.size [2, 3] _ _ _ _ DI.out.map.lt KI21.out).mono ?_
  rintro e C21 ⟨v21, rfl, hcl, hB⟩
  have CL := Lib.hid hcl
  replace DI := Lib.hid (DI.out.gr (by omega) hB)
  replace BW := Lib.hid (BW.out.trans (hB.mono BW.out.size))
  clear hcl hB
  go_wp2_with (first
    | (refine wpList_insertL _ rfl _ _ _ 72 rfl 9 71 strKeyed Tryz.underlying72 w.heap.size _ rfl DI.out.map (by rw [DI.out.len]; decide) _ _ (doKey 21) rfl rfl (doKey_of _ (by decide)) ?_; intro W21 hM hg; replace DI := Lib.hid (DI.out.step (by omega) (v := v21) CL.out hM hg); replace BW := Lib.hid (BW.out.grown hg BW.out.size (by simp)); clear hM hg))
  obtain ⟨K22, hK22⟩ : ∃ W_, W_ = W21.alloc (.cells #[.int .u8 4] 5) := ⟨_, rfl⟩
  rw [← hK22]
  have hB22 : Below W21.heap.size W21 K22 := by rw [hK22]; exact (Below.refl _ _).alloc (Nat.le_refl _) _
  have KI22 := Lib.hid (⟨W21.heap.size, rfl, DI.out.map.lt, fun i h => by
    rw [hK22]
    match i, h with
    | 0, _ => simp⟩ : KindsAt w.heap.size [4] (.slice (some ⟨W21.heap.size, 0, none⟩) 1 1) K22)
  replace DI := Lib.hid (DI.out.gr (by omega) hB22)
  replace BW := Lib.hid (BW.out.trans (hB22.mono BW.out.size))
  clear hB22 hK22
  refine (kind_mk w.heap.size [4] _ _ _ _ DI.out.map.lt KI22.out).mono ?_
  rintro e C22 ⟨v22, rfl, hcl, hB⟩
  have CL := Lib.hid hcl
  replace DI := Lib.hid (DI.out.gr (by omega) hB)
  replace BW := Lib.hid (BW.out.trans (hB.mono BW.out.size))
  clear hcl hB
  go_wp2_with (first
    | (refine wpList_insertL _ rfl _ _ _ 72 rfl 9 71 strKeyed Tryz.underlying72 w.heap.size _ rfl DI.out.map (by rw [DI.out.len]; decide) _ _ (doKey 22) rfl rfl (doKey_of _ (by decide)) ?_; intro W22 hM hg; replace DI := Lib.hid (DI.out.step (by omega) (v := v22) CL.out hM hg); replace BW := Lib.hid (BW.out.grown hg BW.out.size (by simp)); clear hM hg))
  go_ret
  exact ⟨rfl, BW.out, _, DI.out⟩

end Go.Proofs.YtnmhnaanpjlniaaGreat
/-
  The law TermParts: plain facts of lists.
-/
namespace Go.Proofs.YtnmhnaanpjlniaaGreat
open Go.RowKit

theorem alike_symm : ∀ (ts us : Ts), alike ts us = alike us ts
  | .nil, .nil => rfl
  | .cons k s n _ _ kids rest, .cons k' s' n' _ _ kids' rest' => by
    simp only [alike, alike_symm kids kids', alike_symm rest rest']
    rw [Bool.beq_comm (a := k), Bool.beq_comm (a := n)]
    have : (s.toList == s'.toList) = (s'.toList == s.toList) := Bool.beq_comm
    rw [this]
  | .nil, .cons .. => by simp [alike]
  | .cons .., .nil => by simp [alike]

theorem twin_alike_both {us ts vs ws : Ts} (h : Ts.twin us ts) (h' : Ts.twin vs ws) : alike us vs = alike ts ws := by
  rw [Ts.twin_alike us ts vs h, alike_symm, Ts.twin_alike vs ws ts h', alike_symm]







/-- an element of a list, where it lies -/
structure El (b o : Nat) (k : Int) (s : ByteArray) (n : Int) (p : Option Addr) (c : Nat) (us : Ts) (W : World) : Prop where
  lt : b < W.heap.size
  c0 : W.cell? ⟨b, o, none⟩ = some (.int .u8 k)
  c1 : W.cell? ⟨b, o + 1, none⟩ = some (.string s)
  c2 : W.cell? ⟨b, o + 2, none⟩ = some (.int .i64 n)
  c3 : W.cell? ⟨b, o + 3, none⟩ = some (.slice p us.len c)
  tat : Ts.At W p us

theorem El.below {b o : Nat} {k : Int} {s : ByteArray} {n : Int} {p : Option Addr} {c : Nat} {us : Ts} {W W' : World} (h : El b o k s n p c us W) (hB : Below W.heap.size W W') : El b o k s n p c us W' :=
  ⟨Nat.lt_of_lt_of_le h.lt hB.size, ((stays hB).1 _ _ h.lt).trans h.c0, ((stays hB).1 _ _ h.lt).trans h.c1, ((stays hB).1 _ _ h.lt).trans h.c2, ((stays hB).1 _ _ h.lt).trans h.c3, h.tat.below hB⟩

theorem Ts.elem {W wr : World} {ts : Ts} {b o j : Nat} (hl : ts.lies W b o) (hB : Below W.heap.size W wr) (hok : ts.ok) (h : j < ts.len) :
    ∃ (k : Int) (s : ByteArray) (n : Int) (p : Option Addr) (c : Nat) (kids rest : Ts), Hid (ts.drop j = .cons k s n p c kids rest) ∧ El b (o + j * 4) k s n p c kids wr ∧ kids.size + rest.size + 1 ≤ ts.size ∧ Ts.ok (.cons k s n p c kids .nil) := by
  obtain ⟨k, s, n, p, c, kids, rest, hd, c0, c1, c2, c3, hat, hok', hc, hsz, hk, hs, hn⟩ := Ts.open_at hl hB hok h
  have hokd := Ts.ok_drop j ts hok
  rw [hd.out] at hokd
  exact ⟨k, s, n, p, c, kids, rest, hd, ⟨World.block_lt_of_cell? _ _ c0, c0, c1, c2, c3, hat.out⟩, hsz, hokd.1, hokd.2.1, hokd.2.2.1, hokd.2.2.2.1, hokd.2.2.2.2.1, hokd.2.2.2.2.2.1, trivial⟩

end Go.Proofs.YtnmhnaanpjlniaaGreat
/-
  Layer 2: comparisons of numbers and of texts.
-/
namespace Go.Proofs.YtnmhnaanpjlniaaGreat
open Go.RowKit

def ci (x y : Int) : Int := if x < y then -1 else if y < x then 1 else 0

def cb (s t : ByteArray) : Int := Lib.compareBytes s.data.toList t.data.toList

set_option maxHeartbeats 1000000 in
theorem cmp_u8 (x y : Int) (w : World) :
    Calls Tryz.prog 47 #[.int .u8 x, .int .u8 y] w fun e w' => e = .returned (.int .i64 (ci x y)) ∧ w' = w := by
  unfold ci
  go_enter Tryz.func47, Tryz.ntmps47
  by_cases h1 : x < y
  · go_wp2
    go_ret
    exact ⟨by simp [h1], rfl⟩
  · by_cases h2 : y < x
    · go_wp2
      go_ret
      exact ⟨by simp [h1, h2], rfl⟩
    · go_wp2
      go_ret
      exact ⟨by simp [h1, h2], rfl⟩

set_option maxHeartbeats 1000000 in
theorem cmp_i64 (x y : Int) (w : World) :
    Calls Tryz.prog 49 #[.int .i64 x, .int .i64 y] w fun e w' => e = .returned (.int .i64 (ci x y)) ∧ w' = w := by
  unfold ci
  go_enter Tryz.func49, Tryz.ntmps49
  by_cases h1 : x < y
  · go_wp2
    go_ret
    exact ⟨by simp [h1], rfl⟩
  · by_cases h2 : y < x
    · go_wp2
      go_ret
      exact ⟨by simp [h1, h2], rfl⟩
    · go_wp2
      go_ret
      exact ⟨by simp [h1, h2], rfl⟩

set_option maxHeartbeats 1000000 in
theorem cmp_int (x y : Int) (w : World) :
    Calls Tryz.prog 51 #[.int .i64 x, .int .i64 y] w fun e w' => e = .returned (.int .i64 (ci x y)) ∧ w' = w := by
  unfold ci
  go_enter Tryz.func51, Tryz.ntmps51
  by_cases h1 : x < y
  · go_wp2
    go_ret
    exact ⟨by simp [h1], rfl⟩
  · by_cases h2 : y < x
    · go_wp2
      go_ret
      exact ⟨by simp [h1, h2], rfl⟩
    · go_wp2
      go_ret
      exact ⟨by simp [h1, h2], rfl⟩

set_option maxHeartbeats 1000000 in
set_option maxRecDepth 100000 in
/-- two texts, by the entry that the model keeps for them -/
theorem cmp_str0 (s t : ByteArray) (w : World) :
    Calls Tryz.prog 96 #[.string s, .string t] w fun e w' => e = .returned (.int .i64 (cb s t)) ∧ w' = w := by
  go_enter Tryz.func96, Tryz.ntmps96
  go_wp2
  rw [run_callFunc_extern Tryz.func114 (by kernel_rfl) (by kernel_rfl) (by kernel_rfl) (e := Extern.BytealgCompare.compare) (by kernel_rfl), Lib.run_compareString]
  simp only [Result.andThen]
  rw [Oper.upon_value]
  go_wp2
  go_ret
  exact ⟨rfl, rfl⟩

set_option maxHeartbeats 1000000 in
theorem cmp_str (s t : ByteArray) (w : World) :
    Calls Tryz.prog 53 #[.string s, .string t] w fun e w' => e = .returned (.int .i64 (cb s t)) ∧ w' = w := by
  go_enter Tryz.func53, Tryz.ntmps53
  go_wp2_with fail
  refine (cmp_str0 _ _ _).mono ?_
  rintro e w' ⟨rfl, rfl⟩
  go_wp2
  go_ret
  exact ⟨rfl, rfl⟩
end Go.Proofs.YtnmhnaanpjlniaaGreat
