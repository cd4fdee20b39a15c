/-
  The document's own Get (rostrumref1.Get).
-/
import Derived.Test.YtjnlkgamnabhjaaDoorWRFrame
import Derived.Deep.RegionHeldLaw
namespace Go.Proofs.YtjnlkgamnabhjaaDoor
open Go.RowKit Go.Lib
set_option linter.unusedVariables false
set_option linter.unnecessarySimpa false

theorem i64_or_nat (a b : Nat) (ha : a < 4611686018427387904) (hb : b < 4611686018427387904) : bits .or .i64 (a : Int) (b : Int) = ((a ||| b : Nat) : Int) := by
  have hx : a ||| b < 2 ^ 62 := Nat.or_lt_two_pow (by omega) (by omega)
  show IntKind.i64.wrap ((BitVec.ofInt 64 (a : Int) ||| BitVec.ofInt 64 (b : Int)).toNat : Int) = _
  rw [BitVec.toNat_or, BitVec.ofInt_natCast, BitVec.ofInt_natCast, BitVec.toNat_ofNat, BitVec.toNat_ofNat, Nat.mod_eq_of_lt (by omega), Nat.mod_eq_of_lt (by omega), IntKind.wrap_i64]
  omega
theorem or_step64 (a x k : Nat) (ha : a < 2 ^ k) (hx : x < 256) (hk : k ≤ 24) : bits .or .i64 (a : Int) ((x * 2 ^ k : Nat) : Int) = ((a + 2 ^ k * x : Nat) : Int) := by
  have h2 : (2 : Nat) ^ k ≤ 2 ^ 24 := Nat.pow_le_pow_right (by decide) hk
  have h3 : x * 2 ^ k ≤ 255 * 2 ^ 24 := Nat.mul_le_mul (by omega) h2
  rw [i64_or_nat _ _ (by omega) (by omega), Nat.mul_comm x, Nat.or_comm, ← Nat.two_pow_add_eq_or_of_lt ha, Nat.add_comm]
/-- A part appended, at a step of a region that draws its order. -/
theorem step_append_part {w : World} {ops : Array Oper} {o : Oper} {a : Act} {K : Act → World → Prop} {Q : Exit → Act → World → Prop} {E : Prop} (hgd : o.guard = none) (s x : Operand)
    (ho : o.op = .call { callee := .builtin .append, args := #[s, x], argTypes := #[23, 23] })
    (base : Nat) (v : Value) (l : List UInt8) (hs : a.eval s = v) (hown : Own w base v l) (y : Part) (m : Nat) (hx : a.eval x = .slice y.p m y.cap) (hm : m = y.l.length) (hy : y.ok w) (hn : l.length + y.l.length ≤ 100000) (hB : base ≤ w.heap.size)
    (h : ∀ v' w', Own w' base v' (l ++ y.l) → w.grownBy w' v.ownBlock → K (a.put o.dst v') w') : if Region.wanted o (yielded ops a.tmps) = true then Oper.wp Tryd.prog o a w K Q else E := by
  have hw : Region.wanted o (yielded ops a.tmps) = true := by simp [Region.wanted, hgd]
  rw [if_pos hw]
  obtain ⟨v', w', hr, h2, h3⟩ := run_append_part hown o.type y hy hn hB
  subst hm
  unfold Oper.wp execOp
  have hr' : (Builtin.append_ #[23, 23] o.type #[v, .slice y.p y.l.length y.cap]).run Tryd.prog w = .ok v' w' := hr
  simp only [ho, resolve, invoke, builtin, Sem.run_bind, Sem.run_pure, Result.andThen_ok, List.map_toArray, List.map_cons, List.map_nil, hs, hx, hr']
  exact h v' w' h2 h3
theorem ret_pair {p p' : Option Addr} {n n' m m' c c' : Nat} (h : n = n') (h2 : m = m') : Ending.returned (.tuple #[.slice p n c, .slice p' m c', .int .i64 0]) = .returned (.tuple #[.slice p n' c, .slice p' m' c', .int .i64 0]) := by rw [h, h2]
set_option maxHeartbeats 4000000 in
theorem rget_any (p : Option Addr) (l : List UInt8) (cap : Nat) (w : World) (hx : (Part.mk p l cap).ok w) (hcap : l.length ≤ cap) (hcm : cap ≤ maxLen) (hl : l.length ≤ 100000) :
    Calls Tryd.prog 13 #[.slice p l.length cap] w fun e w' => ((C.fe l).2 ≠ 0 ∧ e = .returned (.tuple #[.slice none 0 0, .slice none 0 0, .int .i64 ((C.fe l).2 : Nat)]) ∨
      (C.fe l).2 = 0 ∧ ∃ p1 c1 p2 c2, e = .returned (.tuple #[.slice p1 (C.rec l).length c1, .slice p2 (C.rest l).length c2, .int .i64 0]) ∧ ∀ w0, BAt w0 p l → BAt w0 p1 (C.rec l) ∧ BAt w0 p2 (C.rest l)) ∧ Below w.heap.size w w' := by
  have HX : Hid (BAt w p l) := hx.2
  have HF : Hid (C.fe l = _) := C.fe.eq_1 l
  unfold maxLen at hcm
  clear hx
  go_enter Tryd.func13, Tryd.ntmps13
  by_cases h0 : l.length = 0
  · have HE : Hid (C.fe l = (0, 8)) := by show _ = _; rw [HF.out, if_pos h0]
    go_wp2
    go_ret3
    rw [HE.out]
    exact ⟨Or.inl ⟨by decide, rfl⟩, Below.refl _ _⟩
  obtain ⟨b, o, rfl, hc⟩ := HX.out (by omega)
  have hc0 := hc 0 (by omega)
  rw [Nat.add_zero] at hc0
  have HX0 : Hid ((l.getD 0 0 ≠ 1) ↔ ¬ ((l.getD 0 0).toNat : Int) = 1) := by
    refine not_congr ⟨fun h => by rw [h]; rfl, fun h => UInt8.toNat_inj.1 ?_⟩
    show _ = 1; omega
  rw [if_neg h0] at HF
  generalize l.getD 0 0 = x at hc0 HX0 HF
  have hx0 := x.toNat_lt
  by_cases h1 : (x.toNat : Int) = 1
  · have HF1 : Hid (¬ x ≠ 1) := fun h => HX0.out.1 h h1
    rw [if_neg HF1.out] at HF
    have HB1 : Hid (BAt w (some ⟨b, o + 1, none⟩) ((l.drop 1).take 4)) := BAt.sub HX.out 1 4
    have HN : Hid (((l.drop 1).take 4).length = min 4 (l.length - 1)) := by show _ = _; rw [List.length_take, List.length_drop]
    have HC : Hid (C.le ((l.drop 1).take 4) < 4294967296) := by
      have h5 := C.le_lt ((l.drop 1).take 4)
      exact Nat.lt_of_lt_of_le h5 (Nat.le_trans (Nat.pow_le_pow_right (by decide) (show ((l.drop 1).take 4).length ≤ 4 by rw [HN.out]; omega)) (by decide))
    have HCell : Hid (∀ i, i < l.length → w.cell? ⟨b, o + i, none⟩ = some (.int .u8 ((l.getD i 0).toNat : Nat))) := hc
    clear hc
    go_wp2
    go_loop [5, 6] (fun s i => ∃ k : Nat, k ≤ 4 ∧ 1 + k ≤ l.length ∧ i = .int .i64 k ∧ s = .int .i64 (C.le ((l.drop 1).take k) : Nat)) (fun _ i => 4 - (intOf i).toNat)
    case atStart => exact ⟨0, by omega, by omega, rfl, by simp [C.le]⟩
    case round =>
      obtain ⟨k, hk, hk1, rfl, rfl⟩ := hrel
      by_cases hin : k < 4 ∧ 1 + k < l.length
      · obtain ⟨hin1, hin2⟩ := hin
        have hck := HCell.out (k + 1) (by omega)
        have hle := C.le_lt ((l.drop 1).take k)
        have ht : ((l.drop 1).take k).length = k := by rw [List.length_take, List.length_drop]; omega
        rw [ht] at hle
        have HX1 : Hid (C.le ((l.drop 1).take (k + 1)) = C.le ((l.drop 1).take k) + 256 ^ k * (l.getD (k + 1) 0).toNat) := by
          show _ = _
          rw [List.take_succ_eq_append_getElem (show k < (l.drop 1).length by rw [List.length_drop]; omega), C.le_snoc, ht]
          simp [List.getD, show k + 1 < l.length by omega]
        generalize C.le ((l.drop 1).take k) = r at hle HX1
        generalize l.getD (k + 1) 0 = y at hck HX1
        have hy0 := y.toNat_lt
        have ho := or_step64 r y.toNat (8 * k) (by rw [Nat.pow_mul]; exact hle) hy0 (by omega)
        rw [show (256 : Nat) ^ k = 2 ^ (8 * k) by rw [Nat.pow_mul]] at HX1
        clear ht
        rcases (show k = 0 ∨ k = 1 ∨ k = 2 ∨ k = 3 by omega) with rfl | rfl | rfl | rfl
        all_goals
          simp only [Nat.reduceMul, Nat.reducePow, Nat.mul_one, Nat.one_mul, Nat.reduceAdd] at ho hle hck
          go_wp2
          go_round
          case rel => exact ⟨_, hin1, by omega, by go_num, by rw [HX1.out]; exact congrArg _ (by simpa using ho)⟩
          case measure => simp [intOf]
      · have HT : Hid (C.le ((l.drop 1).take k) = C.le ((l.drop 1).take 4)) := by
          show _ = _
          rcases (show k = 4 ∨ l.length = 1 + k by omega) with rfl | h
          · rfl
          · rw [List.take_of_length_le (by rw [List.length_drop]; omega), List.take_of_length_le (by rw [List.length_drop]; omega)]
        have HRB : Hid (C.rec l = (l.drop 9).take ((C.fe l).1 - 9)) := rfl
        have HSB : Hid (C.rest l = l.drop (C.fe l).1) := rfl
        rw [HT.out]
        generalize hn : C.le ((l.drop 1).take 4) = n at HF HC ⊢
        have HNN : Hid (C.le ((l.drop 1).take 4) = n) := hn
        have hc32 := HC.out
        clear hn HT
        by_cases h2 : (65536 : Int) < n
        · have HE : Hid (C.fe l = (0, 3)) := by show _ = _; rw [HF.out, if_pos (by omega)]
          by_cases hk4 : k < 4
          all_goals
            go_wp2
            go_ret3
            rw [HE.out]
            exact ⟨Or.inl ⟨by decide, rfl⟩, Below.refl _ _⟩
        rw [if_neg (by omega)] at HF
        by_cases h3 : (l.length : Int) < 9 + n
        · have HE : Hid (C.fe l = (0, 8)) := by show _ = _; rw [HF.out, if_pos (by omega)]
          by_cases hk4 : k < 4
          all_goals
            go_wp2
            go_ret3
            rw [HE.out]
            exact ⟨Or.inl ⟨by decide, rfl⟩, Below.refl _ _⟩
        rw [if_neg (by omega)] at HF
        obtain rfl : k = 4 := by omega
        have HB5 : Hid (BAt w (some ⟨b, o + 5, none⟩) ((l.drop 5).take 4)) := BAt.sub HX.out 5 4
        have HL1 : Hid (((l.drop 1).take 4).length = 4) := by show _ = _; rw [HN.out]; omega
        have HL5 : Hid (((l.drop 5).take 4).length = 4) := by show _ = _; rw [List.length_take, List.length_drop]; omega
        have HL9 : Hid (((l.drop 9).take n).length = n) := by show _ = _; rw [List.length_take, List.length_drop]; omega
        have HP1 : Hid (Part.ok w ⟨some ⟨b, o + 1, none⟩, (l.drop 1).take 4, cap - 1⟩) := ⟨by show ((l.drop 1).take 4).length ≤ maxLen; rw [HL1.out]; decide, HB1.out⟩
        have HB9 : Hid (BAt w (some ⟨b, o + 9, none⟩) ((l.drop 9).take n)) := BAt.sub HX.out 9 n
        have hn9 : ((l.drop 9).take n).length ≤ maxLen := by rw [HL9.out]; unfold maxLen; omega
        have HM : Hid (((l.drop 9).take n).length ≤ maxLen) := hn9
        have HN3 : Hid (([] ++ (l.drop 1).take 4).length + ((l.drop 9).take n).length ≤ 100000) := by
          show _ ≤ _
          rw [List.nil_append, HL1.out, HL9.out]; omega
        clear hn9
        have HBT : Hid (BAt w (some ⟨b, o + (9 + n), none⟩) (l.drop (9 + n))) := BAt.tail HX.out (9 + n)
        have HLT : Hid ((l.drop (9 + n)).length = l.length - (9 + n)) := by show _ = _; rw [List.length_drop]
        have HFE : Hid ((l.drop 5).take 4 = C.four (C.crc ((l.drop 1).take 4 ++ (l.drop 9).take n)) ∧ C.fe l = (9 + n, 0) ∨ ¬ (l.drop 5).take 4 = C.four (C.crc ((l.drop 1).take 4 ++ (l.drop 9).take n)) ∧ C.fe l = (0, 3)) := by
          have h4 := C.four_iff ((l.drop 5).take 4) (C.crc ((l.drop 1).take 4 ++ (l.drop 9).take n)) HL5.out
          by_cases h : (l.drop 5).take 4 = C.four (C.crc ((l.drop 1).take 4 ++ (l.drop 9).take n))
          · exact Or.inl ⟨h, by rw [HF.out, if_neg (fun h' => h' (h4.2 h))]⟩
          · exact Or.inr ⟨h, by rw [HF.out, if_pos (fun h' => h (h4.1 h'))]⟩
        have HSW : Hid (∀ w', Below w.heap.size w w' → (convert 23 9 (.slice (some ⟨b, o + 5, none⟩) 4 (cap - 5))).run Tryd.prog w' = .ok (.string ⟨((l.drop 5).take 4).toArray⟩) w') := by
          intro w' hb
          have k1 := conv_str (w := w') (x := ⟨some ⟨b, o + 5, none⟩, (l.drop 5).take 4, cap - 5⟩) ⟨by show ((l.drop 5).take 4).length ≤ maxLen; rw [HL5.out]; decide, HB5.out.below hb⟩
          simp only [Part.v, HL5.out] at k1
          exact k1
        have hd : Below w.heap.size w w.drew := (Below.refl _ _).drew
        have HE0 : Hid (Own (w.drew.alloc (.cells #[] 5)) w.heap.size (.slice (some ⟨w.heap.size, 0, none⟩) 0 0) []) := Own.empty w.drew w.heap.size (Nat.le_refl _)
        have HD0 : Hid (Below w.heap.size w (w.drew.alloc (.cells #[] 5))) := hd.alloc (by simp) _
        have HP1d : Hid (Part.ok (w.drew.alloc (.cells #[] 5)) ⟨some ⟨b, o + 1, none⟩, (l.drop 1).take 4, cap - 1⟩) := HP1.out.below HD0.out
        generalize hs : C.crc ((l.drop 1).take 4 ++ (l.drop 9).take n) = s at HFE
        have HS : Hid (C.crc ((l.drop 1).take 4 ++ (l.drop 9).take n) = s) := hs
        clear hs hd
        by_cases h9 : cap = 9
        · subst h9
          obtain rfl : n = 0 := by omega
          have HP9 : Hid (Part.ok w ⟨some ⟨b, o, none⟩, (l.drop 9).take 0, 0⟩) := ⟨HM.out, BAt.nil _ _⟩
          go_wp2
          go_region_held_law (fun w' => (convert 23 9 (.slice (some ⟨b, o + 5, none⟩) 4 (9 - 5))).run Tryd.prog w' = .ok (.string ⟨((l.drop 5).take 4).toArray⟩) w')
            ((refine HSW.out _ ?_; repeat (first | exact Below.refl _ _ | assumption | refine Below.drew ?_ | refine Below.alloc ?_ (by simp) _)))
            (first
            | (go_at_call 21; refine (four_any s _).mono ?_; rintro e w6 ⟨rfl, ho6, hb6⟩; have h6 : Below w.heap.size w w6 := bt h3 hb6; have k6 := conv_str (Own.okAt ho6 rfl); simp only [Part.v, C.four_length] at k6; clear hb6)
            | (go_at_call 22; refine (rcrc_n p3 _ ((l.drop 1).take 4 ++ (l.drop 9).take 0) c3 s _ (by simp) hok3 HS.out).mono ?_; rintro e w' ⟨rfl, hw'⟩; subst w')
            | ((refine step_append_part (by rfl) _ _ (by rfl) w.heap.size _ ([] ++ (l.drop 1).take 4) (by rfl) ho2 ⟨some ⟨b, o, none⟩, (l.drop 9).take 0, 0⟩ _ (by rfl) HL9.out.symm (Part.ok.below HP9.out h2) HN3.out h2.size ?_; intro v3 w3 ho3 hg3; have h3 : Below w.heap.size w w3 := Own.grown ho2 h2 h2.size hg3; obtain ⟨p3, c3, rfl, hok3⟩ := Own.part ho3; clear hg3))
            | ((refine step_append_part (by rfl) _ _ (by rfl) w.heap.size _ [] (by rfl) HE0.out ⟨some ⟨b, o + 1, none⟩, (l.drop 1).take 4, 9 - 1⟩ _ (by rfl) HL1.out.symm HP1d.out (by show 0 + ((l.drop 1).take 4).length ≤ 100000; rw [HL1.out]; decide) (by simp) ?_; intro v2 w2 ho2 hg2; have h2 : Below w.heap.size w w2 := Own.grown HE0.out HD0.out (by simp) hg2; clear hg2)))
          rcases HFE.out with ⟨h4, he⟩ | ⟨h4, he⟩
          · have HE : Hid (C.fe l = (9 + 0, 0)) := he
            have h4b : (C.four s == (l.drop 5).take 4) = true := by rw [h4]; simp
            have HRE : Hid (C.rec l = (l.drop 9).take 0) := by show _ = _; rw [HRB.out, he]; simp only
            have HSE : Hid (C.rest l = l.drop (9 + 0)) := by show _ = _; rw [HSB.out, he]
            clear he h4
            skip
            all_goals
              rw [h4b]
              go_wp2
              go_region
              all_goals
                go_wp2
                go_ret3
                refine ⟨Or.inr ⟨by rw [HE.out], ?_⟩, ?_⟩
                · refine ⟨_, _, _, _, ret_pair ?_ ?_, fun w0 h0 => ⟨?_, ?_⟩⟩
                  · rw [HRE.out, HL9.out]
                  · rw [HSE.out, HLT.out]; try omega
                  · rw [HRE.out]; first | exact BAt.sub h0 9 _ | exact BAt.nil _ _
                  · rw [HSE.out]
                    first
                    | exact BAt.tail h0 _
                    | (rw [List.drop_of_length_le (by omega)]; exact BAt.nil _ _)
                · repeat (first | exact h6 | refine Below.drew ?_)
          · have HE : Hid (C.fe l = (0, 3)) := he
            have h4b : (C.four s == (l.drop 5).take 4) = false := by
              rw [beq_eq_false_iff_ne]; exact fun h => h4 h.symm
            clear he h4
            rw [h4b]
            go_wp2
            go_ret3
            rw [HE.out]
            exact ⟨Or.inl ⟨by decide, rfl⟩, h6⟩
        · have HP9 : Hid (Part.ok w ⟨some ⟨b, o + 9, none⟩, (l.drop 9).take n, cap - 9⟩) := ⟨HM.out, HB9.out⟩
          have hi1 : (9 : Int) + (n : Int) ≤ cap := by omega
          have hi2 : (9 : Int) ≤ 9 + (n : Int) := by omega
          have hi3 : (0 : Int) ≤ 9 + (n : Int) := by omega
          have hi4 : (9 : Int) ≤ cap := by omega
          have hi5 : ¬ cap - 9 = 0 := by omega
          have hi7 : (5 : Int) ≤ cap := by omega
          have hi8 : ¬ cap = 1 := by omega
          have hi9 : ¬ cap = 5 := by omega
          have hi6 : ((9 : Int) + (n : Int)).toNat = 9 + n := by omega
          go_wp2
          go_region_held_law (fun w' => (convert 23 9 (.slice (some ⟨b, o + 5, none⟩) 4 (cap - 5))).run Tryd.prog w' = .ok (.string ⟨((l.drop 5).take 4).toArray⟩) w')
            ((refine HSW.out _ ?_; repeat (first | exact Below.refl _ _ | assumption | refine Below.drew ?_ | refine Below.alloc ?_ (by simp) _)))
            (first
            | (go_at_call 21; refine (four_any s _).mono ?_; rintro e w6 ⟨rfl, ho6, hb6⟩; have h6 : Below w.heap.size w w6 := bt h3 hb6; have k6 := conv_str (Own.okAt ho6 rfl); simp only [Part.v, C.four_length] at k6; clear hb6)
            | (go_at_call 22; refine (rcrc_n p3 _ ((l.drop 1).take 4 ++ (l.drop 9).take n) c3 s _ (by simp) hok3 HS.out).mono ?_; rintro e w' ⟨rfl, hw'⟩; subst w')
            | ((refine step_append_part (by rfl) _ _ (by rfl) w.heap.size _ ([] ++ (l.drop 1).take 4) (by rfl) ho2 ⟨some ⟨b, o + 9, none⟩, (l.drop 9).take n, cap - 9⟩ _ (by rfl) HL9.out.symm (Part.ok.below HP9.out h2) HN3.out h2.size ?_; intro v3 w3 ho3 hg3; have h3 : Below w.heap.size w w3 := Own.grown ho2 h2 h2.size hg3; obtain ⟨p3, c3, rfl, hok3⟩ := Own.part ho3; clear hg3))
            | ((refine step_append_part (by rfl) _ _ (by rfl) w.heap.size _ [] (by rfl) HE0.out ⟨some ⟨b, o + 1, none⟩, (l.drop 1).take 4, cap - 1⟩ _ (by rfl) HL1.out.symm HP1d.out (by show 0 + ((l.drop 1).take 4).length ≤ 100000; rw [HL1.out]; decide) (by simp) ?_; intro v2 w2 ho2 hg2; have h2 : Below w.heap.size w w2 := Own.grown HE0.out HD0.out (by simp) hg2; clear hg2)))
          rcases HFE.out with ⟨h4, he⟩ | ⟨h4, he⟩
          · have HE : Hid (C.fe l = (9 + n, 0)) := he
            have h4b : (C.four s == (l.drop 5).take 4) = true := by rw [h4]; simp
            have HRE : Hid (C.rec l = (l.drop 9).take n) := by show _ = _; rw [HRB.out, he]; simp only; rw [show 9 + n - 9 = n by omega]
            have HSE : Hid (C.rest l = l.drop (9 + n)) := by show _ = _; rw [HSB.out, he]
            clear he h4
            by_cases hcn : cap = 9 + n
            all_goals
              rw [h4b]
              go_wp2
              go_region
              all_goals
                go_wp2
                go_ret3
                refine ⟨Or.inr ⟨by rw [HE.out], ?_⟩, ?_⟩
                · refine ⟨_, _, _, _, ret_pair ?_ ?_, fun w0 h0 => ⟨?_, ?_⟩⟩
                  · rw [HRE.out, HL9.out]
                  · rw [HSE.out, HLT.out]; try omega
                  · rw [HRE.out]; first | exact BAt.sub h0 9 _ | exact BAt.nil _ _
                  · rw [HSE.out]
                    first
                    | exact BAt.tail h0 _
                    | (rw [List.drop_of_length_le (by omega)]; exact BAt.nil _ _)
                · repeat (first | exact h6 | refine Below.drew ?_)
          · have HE : Hid (C.fe l = (0, 3)) := he
            have h4b : (C.four s == (l.drop 5).take 4) = false := by
              rw [beq_eq_false_iff_ne]; exact fun h => h4 h.symm
            clear he h4
            rw [h4b]
            go_wp2
            go_ret3
            rw [HE.out]
            exact ⟨Or.inl ⟨by decide, rfl⟩, h6⟩
  · have HE : Hid (C.fe l = (0, 3)) := by show _ = _; rw [HF.out, if_pos (HX0.out.2 h1)]
    go_wp2
    go_ret3
    rw [HE.out]
    exact ⟨Or.inl ⟨by decide, rfl⟩, Below.refl _ _⟩
end Go.Proofs.YtjnlkgamnabhjaaDoor
