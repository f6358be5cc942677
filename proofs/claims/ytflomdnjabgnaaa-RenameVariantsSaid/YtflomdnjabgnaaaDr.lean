import Derived.Test.YtflomdnjabgnaaaTy
/-
  The law RenameVariants, lifted: variants are each other's renaming; for whatever can be read, no condition.
-/
namespace Go.Proofs.Ytflomdnjabgnaaa
open Go.ChangeShapes Go.WideShapes Go.ChangeAt Go.RowKit

set_option maxRecDepth 100000 in
theorem renameVariants_lifted (os : Os) (started : os.Started) (H : Type) (enc : TypeId × Value → H) :
    ReturnsInHanded {} Try.checked os 12 .any (Rows.renameVariantsSpec.pre6 enc Try.prog Try.f12 Rows.renameVariantsRow.domain false) (Rows.renameVariantsSpec.post enc Try.prog Try.f12 false true false false) := by
  refine returnsInHanded_of_change_sized (C := Try.checked) own started (by kernel_rfl) Try.func12
    (ChangeSpec.witness6 (enc := enc) (C := Try.checked) false ⟨#[], #[.slice none 0 0, .slice none 0 0, .slice none 0 0, .int .i64 0], []⟩ 8 (by kernel_rfl) (by kernel_rfl) (by kernel_rfl) (by kernel_rfl)) ?_
  intro W base args ds gs before hval0 hW _ hsz0 _
  have hsz : (DataW.weightsEach Try.prog (Try.f12.params.toList ++ Rows.renameVariantsSpec.plain.varTypes Try.prog) (ds ++ gs)).all (· ≤ reachBytes) = true := hsz0
  have hval : ∀ (j : Nat) t v, Try.f12.params[j]? = some t → args[j]? = some v → Value.okWide Try.prog W .any base t v := hval0
  have hW' := hW
  obtain ⟨p, q, hA0, hV, rfl, hfz, hnd⟩ := hW
  have hA : DataW.TrodAll enc Try.prog W 0 (fun _ => true) true Try.f12.params.toList args.toList ds p := hA0
  rw [Try.params12] at hA hval hsz
  obtain ⟨v0, v1, v2, v3, d0, d1, d2, d3, p0, p1, p2, p3, rfl, rfl, rfl, h0, h1, h2, h3⟩ := trodAll_four hA
  obtain ⟨rfl, rfl⟩ := trodVars_none hV
  have hwt := weights_le hsz
  obtain ⟨q0, t0, c0, e0, a0, o0, l0⟩ := open_list (okWide_slice Try.underlying22 (hval 0 _ v0 rfl rfl)) h0 (fun m hm => hwt m (DataW.weights_mem_each (j := 0) rfl rfl m hm))
  obtain ⟨q1, t1, c1, e1, a1, o1, l1⟩ := open_list (okWide_slice Try.underlying22 (hval 1 _ v1 rfl rfl)) h1 (fun m hm => hwt m (DataW.weights_mem_each (j := 1) rfl rfl m hm))
  obtain ⟨q2, t2, c2, e2, a2, o2, l2⟩ := open_list (okWide_slice Try.underlying22 (hval 2 _ v2 rfl rfl)) h2 (fun m hm => hwt m (DataW.weights_mem_each (j := 2) rfl rfl m hm))
  obtain ⟨n3, e3, o3⟩ := open_num (okWide_int Try.underlying2 (hval 3 _ v3 rfl rfl)) h3
  clear hA0 hval0 hA hV hval hsz hsz0 hwt hfz hnd
  simp only [List.append_nil] at hW'
  have hlt0 : ∀ x ∈ p0, x.block < W.heap.size := fun x hx => by simpa using hW'.lt x (by simp [hx])
  have hlt1 : ∀ x ∈ p1, x.block < W.heap.size := fun x hx => by simpa using hW'.lt x (by simp [hx])
  have hlt2 : ∀ x ∈ p2, x.block < W.heap.size := fun x hx => by simpa using hW'.lt x (by simp [hx])
  have hlt3 : ∀ x ∈ p3, x.block < W.heap.size := fun x hx => by simpa using hW'.lt x (by simp [hx])
  subst e0 e1 e2 e3
  refine (renameVariants_w W q0 c0 t0 q1 c1 t1 q2 c2 t2 n3 o0 a0 l0 o1 a1 l1 o2 a2 l2 o3).mono fun e W' ⟨he, hB⟩ => ?_
  subst he
  refine ⟨_, rfl, _, _, _, [], p0 ++ (p1 ++ (p2 ++ p3)), [], by simpa using hW', ?_, ?_, ?_, hB.frame _, fun h => by cases h⟩
  · exact trodAll_mk1 (shut_bool Try.underlying4 true)
  · exact trodAll_mk4 (Below.trod laidOut (by kernel_rfl) (of_decide_eq_true (by kernel_rfl)) h0 hB hlt0) (Below.trod laidOut (by kernel_rfl) (of_decide_eq_true (by kernel_rfl)) h1 hB hlt1) (Below.trod laidOut (by kernel_rfl) (of_decide_eq_true (by kernel_rfl)) h2 hB hlt2) (Below.trod laidOut (by kernel_rfl) (of_decide_eq_true (by kernel_rfl)) h3 hB hlt3)
  · rfl

theorem renameVariants_holds : Rows.RenameVariantsSaid :=
  OpenClaim.holds_of_wide 12 Try.f12 rfl rfl rfl rfl rfl rfl rfl ⟨rfl, rfl, rfl, rfl, rfl⟩ rfl rfl rfl rfl rfl (by kernel_rfl) Try.func12 (by kernel_rfl)
    (of_decide_eq_true (by kernel_rfl)) (by unfold Func.isWrapper; first | (rw [if_pos (by decide +kernel)]; kernel_rfl) | (rw [if_neg (by decide +kernel)]; exact ⟨rfl, rfl⟩))
    (fun os started H enc _ => renameVariants_lifted os started H enc)
#print axioms renameVariants_holds

end Go.Proofs.Ytflomdnjabgnaaa
