/-
  WalKnown: bounds, bases, one that is done.
-/
import Derived.Test.YtnhplbdbgiimkaaGreatDoorZ32
namespace Go.Proofs.YtnhplbdbgiimkaaGreatDoor
open Go.RowKit Go.Lib
set_option linter.unusedVariables false

theorem made_row6 (w : World) : ∃ M : Array Value, (Instr.makeSlice 31 (.int .i64 65537) (.int .i64 65537)).run Tryz.prog w = .ok (.slice (some ⟨w.heap.size, 0, none⟩) 65537 65537) (w.alloc (.cells M 5)) :=
  ⟨_, run_make_row' (P := Tryz.prog) 31 5 (.int .u8 0) 1 Tryz.underlying31 info_u8 rfl .i64 .i64 65537 (by decide) (by decide) w⟩
theorem made_row7 (w : World) (o : Obj) : ∃ M : Array Value, (Instr.makeSlice 31 (.int .i64 65537) (.int .i64 65537)).run Tryz.prog (w.alloc o) = .ok (.slice (some ⟨w.heap.size + 1, 0, none⟩) 65537 65537) ((w.alloc o).alloc (.cells M 5)) := by
  obtain ⟨M, hM⟩ := made_row6 (w.alloc o)
  rw [World.size_alloc] at hM
  exact ⟨M, hM⟩
theorem lit2_stay {w : World} {S : Nat → Prop} (hlt : ∀ b, S b → b < w.heap.size) (l k : List UInt8) (c e : Nat) (t : TypeId) (m m2 m3 : Nat × Nat) (hl : l.length ≤ maxLen) (hk : k.length ≤ maxLen) : Stay (((w.alloc (.cells (l.map fun b => Value.int .u8 (b.toNat : Nat)).toArray 5 m)).alloc (.cells (k.map fun b => Value.int .u8 (b.toNat : Nat)).toArray 5 m2)).alloc (.cells #[.slice (some ⟨w.heap.size, 0, none⟩) l.length c, .slice (some ⟨w.heap.size + 1, 0, none⟩) k.length e] t m3)) S (some ⟨w.heap.size + 1 + 1, 0, none⟩) [⟨some ⟨w.heap.size, 0, none⟩, l, c⟩, ⟨some ⟨w.heap.size + 1, 0, none⟩, k, e⟩] :=
  lits_stay (w := w) [⟨some ⟨w.heap.size, 0, none⟩, l, c⟩, ⟨some ⟨w.heap.size + 1, 0, none⟩, k, e⟩] t m3 (by simp [World.size_alloc]) (below_two _ _ _) hlt (fun x hx => by
    rcases List.mem_cons.1 hx with rfl | hx
    · exact ⟨Part.ok.below ⟨hl, bat_new w l _ _⟩ (below_new _ _), fun a ha => by cases ha; exact Nat.le_refl _⟩
    · obtain rfl := List.mem_singleton.1 hx
      have h1 := bat_new (w.alloc (.cells (l.map fun b => Value.int .u8 (b.toNat : Nat)).toArray 5 m)) k 5 m2
      rw [World.size_alloc] at h1
      exact ⟨⟨hk, h1⟩, fun a ha => by cases ha; exact Nat.le_succ _⟩)
theorem lit_stay1 {w : World} {S : Nat → Prop} (hlt : ∀ b, S b → b < w.heap.size) (l : List UInt8) (c : Nat) (m : Nat × Nat) (hl : l.length ≤ maxLen) : Stay1 (w.alloc (.cells (l.map fun b => Value.int .u8 (b.toNat : Nat)).toArray 5 m)) S ⟨some ⟨w.heap.size, 0, none⟩, l, c⟩ := fun W hW => Part.ok.turn ⟨hl, bat_new w l _ _⟩ hW fun a ha _ hs => by
  cases ha
  have := hlt _ hs
  simp only at this
  omega
theorem lit1_pat (w : World) (l : List UInt8) (c : Nat) (t : TypeId) (m m2 : Nat × Nat) : PAt ((w.alloc (.cells (l.map fun b => Value.int .u8 (b.toNat : Nat)).toArray 5 m)).alloc (.cells #[.slice (some ⟨w.heap.size, 0, none⟩) l.length c] t m2)) (some ⟨w.heap.size + 1, 0, none⟩) [⟨some ⟨w.heap.size, 0, none⟩, l, c⟩] := by
  have h := pat_new (w.alloc (.cells (l.map fun b => Value.int .u8 (b.toNat : Nat)).toArray 5 m)) [⟨some ⟨w.heap.size, 0, none⟩, l, c⟩] t m2
  rw [World.size_alloc] at h
  exact h
set_option maxRecDepth 100000 in
set_option maxHeartbeats 8000000 in
theorem known_any (w : World) (hT : Tabs w) : Calls Tryz.prog 3 #[] w fun e w' => e = .returned (.bool true) ∧ Below w.heap.size w w' := by
  have HT : Hid (Tabs w) := hT
  clear hT
  have kc := fun (w : World) (C : Array Value) (n c : Nat) => Lib.run_convert_bytes_const (P := Tryz.prog) w 31 5 C n c Tryz.underlying31 Tryz.underlying5
  have kc2 := fun (w : World) (o : Obj) (C : Array Value) (n c : Nat) => Go.Joins.run_convert_bytes_const_at (P := Tryz.prog) (w.alloc o) 31 5 C n c (w.heap.size + 1) (by rw [World.size_alloc]) Tryz.underlying31 Tryz.underlying5
  go_enter Tryz.func3, Tryz.ntmps3
  go_wp2_with fail
  refine (awake6_any w HT.out).mono ?_
  rintro e w1 ⟨rfl, h1⟩
  have H1 := hidOf h1
  clear h1
  go_wp2_with fail
  refine (lx_new w w1 262144 H1.out (by decide)).mono ?_
  rintro e w2 ⟨⟨d, S2, rfl, hd2, -⟩, -⟩
  have HD2 := hidOf hd2
  clear hd2 H1
  go_wp2_with fail
  refine (open_arg w2 _ 0 (Or.inl (by decide))).mono ?_
  rintro e w3 ⟨rfl, rfl⟩
  go_wp2_with fail
  refine (open_arg w3 _ 1001 (Or.inr (by decide))).mono ?_
  rintro e w4 ⟨rfl, rfl⟩
  go_wp2_with fail
  refine (lx_open w w4 d S2 0 [] [] 0 0 1 262144 1 True HD2.out HT.out (by omega) (by omega) (by simp)).mono ?_
  rintro e w5 ⟨⟨gl, rfl, hlx5, -⟩, -⟩
  have HX5 := hidOf (show LX w w5 d gl 1 _ 0 [] [] 0 0 0 1 262144 True from hlx5)
  clear hlx5 HD2
  obtain ⟨M, hM⟩ := made_row7 w5 (.cells #[.int .u8 120] 5 (1, 2))
  obtain ⟨lb, hlb⟩ : ∃ l : List UInt8, l.length = 65537 := ⟨List.replicate 65537 0, List.length_replicate ..⟩
  have HLB := hidOf hlb
  clear hlb
  go_wp2_with fail
  have HPA : Hid (PAt (((w5.alloc (.cells #[.int .u8 120] 5 (1, 2))).alloc (.cells M 5)).alloc (.cells #[.slice (some ⟨w5.heap.size, 0, none⟩) 1 1, .slice (some ⟨w5.heap.size + 1, 0, none⟩) 65537 65537] 31)) (some ⟨w5.heap.size + 1 + 1, 0, none⟩) [⟨some ⟨w5.heap.size, 0, none⟩, [120], 1⟩, ⟨some ⟨w5.heap.size + 1, 0, none⟩, lb, 65537⟩]) := by
    have h := pat_new ((w5.alloc (.cells #[.int .u8 120] 5 (1, 2))).alloc (.cells M 5)) [⟨some ⟨w5.heap.size, 0, none⟩, [120], 1⟩, ⟨some ⟨w5.heap.size + 1, 0, none⟩, lb, 65537⟩] 31 (0, 0)
    simp only [World.size_alloc, List.map_cons, List.map_nil, Part.v, HLB.out] at h
    exact h
  refine (add_long _ _ _ [⟨some ⟨w5.heap.size, 0, none⟩, [120], 1⟩, ⟨some ⟨w5.heap.size + 1, 0, none⟩, lb, 65537⟩] 2 HPA.out (by simp) (fun x hx => by
    rcases List.mem_cons.1 hx with rfl | hx
    · show (1 : Nat) ≤ maxLen; unfold maxLen; decide
    · obtain rfl := List.mem_singleton.1 hx
      show lb.length ≤ maxLen
      rw [HLB.out]; unfold maxLen; decide) ⟨⟨some ⟨w5.heap.size + 1, 0, none⟩, lb, 65537⟩, by simp, by show 65536 < lb.length; rw [HLB.out]; decide⟩).mono ?_
  rintro e w6 ⟨rfl, hw6⟩
  have HX6 : Hid (LX w w6 d gl 1 (Ext w4 w5 S2) 0 [] [] 0 0 0 1 262144 True) := by rw [hw6]; exact HX5.out.below (bt (below_two _ _ _) (below_new _ _))
  clear hw6 HPA hM HX5 HLB M lb
  go_wp2_with fail
  refine (lx_all w _ d gl 1 _ 0 [] _ _ _ _ 1 262144 True HX6.out (by simp)).mono ?_
  rintro e w7 ⟨⟨p7, c7, rfl, -, -⟩, hb7⟩
  have HX7 := hidOf (HX6.out.below hb7)
  clear hb7 HX6
  obtain ⟨M, hM⟩ := made_row6 w7
  go_wp2_with fail
  refine (keep_long _ _ _ 65537 65537 (by unfold maxLen; decide) (by decide)).mono ?_
  rintro e w8 ⟨rfl, hw8⟩
  have HX8 : Hid (LX w w8 d gl 1 (Ext w4 w5 S2) 0 [] [] 0 0 0 1 262144 True) := by rw [hw8]; exact HX7.out.below (below_new _ _)
  clear hw8 hM HX7 M
  go_wp2_with fail
  refine (lx_add w _ d gl 1 _ 0 [] _ _ _ _ 1 262144 True _ [⟨some ⟨w8.heap.size, 0, none⟩, [112], 1⟩, ⟨some ⟨w8.heap.size + 1, 0, none⟩, [113], 1⟩] 2 (HX8.out.below (bt (below_two _ _ _) (below_new _ _))) HT.out (lit2_stay HX8.out.lt [112] [113] 1 1 _ _ _ _ (by decide) (by decide)) (by simp) (by simp) (by simp) (by simp) (by simp) (by simp) (by decide)).mono ?_
  rintro e w9 ⟨rfl, hx9, -⟩
  have HX9 := hidOf (show LX w w9 d gl 1 _ 0 [] [[112], [113]] 2 3 0 1 262144 True from hx9)
  clear hx9 HX8
  go_wp2_with fail
  refine (lx_keep w _ d gl 1 _ 0 [] _ _ _ _ 1 262144 True _ [98, 97, 115, 101] _ (HX9.out.below (below_new _ _)) HT.out (lit_stay1 HX9.out.lt [98, 97, 115, 101] _ _ (by decide)) (by simp) (by omega) (by omega) (by omega) (by omega)).mono ?_
  rintro e w10 ⟨rfl, hx10, -⟩
  have HX10 := hidOf (show LX w w10 d gl 1 _ 1 [98, 97, 115, 101] [] 3 4 0 1 262144 True from hx10)
  clear hx10 HX9
  go_wp2_with fail
  refine (lx_all w _ d gl 1 _ 1 _ _ _ _ _ 1 262144 True HX10.out (by simp)).mono ?_
  rintro e w11 ⟨⟨p11, c11, rfl, -, -⟩, hb11⟩
  have HX11 := hidOf (HX10.out.below hb11)
  clear hb11 HX10
  go_wp2_with fail
  refine (lx_add w _ d gl 1 _ 1 _ _ _ _ _ 1 262144 True _ [⟨some ⟨w11.heap.size, 0, none⟩, [114], 1⟩] 1 (HX11.out.below (below_two _ _ _)) HT.out (lit1_stay HX11.out.lt [114] 1 _ _ _ (by decide)) (by simp) (by simp) (by simp) (by simp) (by simp) (by simp) (by decide)).mono ?_
  rintro e w12 ⟨rfl, hx12, -⟩
  have HX12 := hidOf (show LX w w12 d gl 1 _ 1 [98, 97, 115, 101] [[114]] 4 6 0 1 262144 True from hx12)
  clear hx12 HX11
  go_wp2_with fail
  refine (lx_sync w _ d gl 1 _ 1 _ _ _ _ _ 1 262144 True HX12.out (by decide)).mono ?_
  rintro e w13 ⟨rfl, hx13, -⟩
  have HX13 := hidOf (show LX w w13 d gl 1 _ 1 [98, 97, 115, 101] [[114]] 4 6 1 1 262144 True from hx13)
  clear hx13 HX12
  go_wp2_with fail
  refine (lx_crash w _ d gl 1 _ 1 _ _ _ _ _ 1 262144 True 0 0 HX13.out (by decide) (by decide) (by decide) (by decide) (by decide)).mono ?_
  rintro e w14 ⟨rfl, ⟨j, T14, hd14, -, -, hj, hdl, hng, -⟩, -⟩
  obtain rfl := hj (Or.inr ⟨rfl, by decide⟩)
  have HD14 := hidOf (show DX w w14 d T14 true 1 [98, 97, 115, 101] [[114]] 4 6 1 262144 False from hd14)
  have HDL14 := hidOf hdl
  have HNG := hidOf hng
  clear hd14 hj hdl hng HX13
  go_wp2_with fail
  refine (lx_dead_add w _ d gl _ _ 1 _ _ _ _ 1 1 262144 _ _ [⟨some ⟨w14.heap.size, 0, none⟩, [115], 1⟩] 1 (HD14.out.below (below_two _ _ _)) (HDL14.out.below (below_two _ _ _)) (Or.inl rfl) (lit1_pat w14 [115] 1 _ _ _) (by simp) (by simp)).mono ?_
  rintro e w15 ⟨rfl, hb15⟩
  have HD15 := hidOf (HD14.out.below (bt (below_two _ _ _) hb15))
  have HDL15 := hidOf (HDL14.out.below (bt (below_two _ _ _) hb15))
  clear hb15 HD14 HDL14
  go_wp2_with fail
  refine (lx_open_off w _ d _ 1 _ _ _ _ 1 262144 1 _ HD15.out (by decide)).mono ?_
  rintro e w16 ⟨rfl, rfl⟩
  go_wp2_with fail
  refine (lx_on w _ d _ _ 1 _ _ _ _ 1 262144 _ HD15.out (by decide)).mono ?_
  rintro e w17 ⟨rfl, hd17, ht17⟩
  have HD17 := hidOf hd17
  have HDL17 := hidOf (HDL15.out.turn ht17 HNG.out)
  clear hd17 ht17 HD15 HDL15
  go_wp2_with fail
  refine (lx_dead_sync w _ d gl _ _ 1 _ _ _ _ 2 1 262144 _ HD17.out HDL17.out (Or.inr (by decide))).mono ?_
  rintro e w18 ⟨rfl, hb18⟩
  have HD18 := hidOf (HD17.out.below hb18)
  have HDL18 := hidOf (HDL17.out.below hb18)
  clear hb18 HD17 HDL17
  go_wp2_with fail
  refine (lx_open w _ d _ 1 _ _ _ _ 2 262144 1 _ HD18.out HT.out (by decide) (by decide) (by decide)).mono ?_
  rintro e w19 ⟨⟨g2, rfl, hx19, -⟩, ht19⟩
  have HX19 := hidOf (show LX w w19 d g2 1 _ 1 [98, 97, 115, 101] [[114]] 4 6 1 2 262144 False from hx19)
  have HDL19 := hidOf (HDL18.out.turn ht19 HNG.out)
  clear hx19 ht19 HD18 HDL18
  go_wp2_with fail
  refine (lx_dead_done w _ d gl _ _ 1 _ _ _ _ 2 1 262144 _ HX19.out.dx HDL19.out (Or.inr (by decide))).mono ?_
  rintro e w20 ⟨rfl, hb20⟩
  have HX20 := hidOf (HX19.out.below hb20)
  clear hb20 HX19 HDL19
  go_wp2_with fail
  refine (lx_base w _ d g2 1 _ 1 _ _ _ _ _ 2 262144 _ HX20.out).mono ?_
  rintro e w21 ⟨⟨bp, bc, rfl, hbp⟩, hb21⟩
  have HX21 := hidOf (HX20.out.below hb21)
  have hcv := conv_at (n := 4) hbp rfl
  clear hbp hb21 HX20
  go_wp2_with fail
  refine (lx_all w _ d g2 1 _ 1 _ _ _ _ _ 2 262144 _ HX21.out (by decide)).mono ?_
  rintro e w22 ⟨⟨p22, c22, rfl, -, hr22⟩, hb22⟩
  have HX22 := hidOf (HX21.out.below hb22)
  have HR22 := hidOf hr22.now
  clear hb22 hr22 hcv HX21
  go_wp2_with fail
  refine (same_any _ _ [[114]] [[114]] _ (HR22.out.below (below_two _ _ _)) (rows_lit1 w22 [114] 1 _ _ _ (by decide))).mono ?_
  rintro e w23 ⟨he, hb23⟩
  rw [decide_eq_true rfl] at he
  subst he
  have HX23 := hidOf (HX22.out.below (bt (below_two _ _ _) hb23))
  clear hb23 HX22 HR22
  go_wp2_with fail
  refine (lx_done w _ d g2 1 _ 1 _ _ _ _ _ 2 262144 _ HX23.out).mono ?_
  rintro e w24 ⟨rfl, hb24⟩
  have HX24 := hidOf (HX23.out.below hb24)
  clear hb24 HX23
  go_wp2
  go_ret
  exact ⟨rfl, HX24.out.bel⟩
end Go.Proofs.YtnhplbdbgiimkaaGreatDoor
