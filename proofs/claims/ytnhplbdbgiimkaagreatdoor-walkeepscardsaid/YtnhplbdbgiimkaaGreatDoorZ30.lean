/-
  Several texts in one: WX, WAwake6, WWriteB.
-/
import Derived.Test.YtnhplbdbgiimkaaGreatDoorZ29
import Derived.Lib.SmallJoins
import Derived.Test.YtnhplbdbgiimkaaGreatDoorZ28
namespace Go.Proofs.YtnhplbdbgiimkaaGreatDoor
open Go.RowKit Go.Lib
set_option linter.unusedVariables false

theorem hidOf {p : Prop} (h : p) : Hid p := h
/-- A log on its disk, all of it made since w0; k records are safe. -/
def LX (w0 w : World) (d gl part : Nat) (S : Nat → Prop) (a : Nat) (base : List UInt8) (recs : List (List UInt8)) (n M k lv room : Nat) (cl : Prop) : Prop :=
  ∃ c s G, c.d = d ∧ c.part = part ∧ LogM w gl c S s a G base recs recs n M ∧ s.lives = lv ∧ s.room = room ∧ C.safeN (C.flat G) + C.st a = k + 1 ∧ (cl → C.Clean G) ∧ (∀ b, S b → w0.heap.size ≤ b) ∧ Below w0.heap.size w0 w
/-- A disk with a log on it. -/
def DX (w0 w : World) (d : Nat) (S : Nat → Prop) (off : Bool) (a : Nat) (base : List UInt8) (recs : List (List UInt8)) (n M lv room : Nat) (cl : Prop) : Prop :=
  ∃ s G, DLog w d S s a G base recs n M ∧ s.off = off ∧ s.lives = lv ∧ s.room = room ∧ (cl → C.Clean G) ∧ (∀ b, S b → w0.heap.size ≤ b) ∧ Below w0.heap.size w0 w
/-- A log whose disk has lost power since. -/
def DeadL (w : World) (gl d lv : Nat) : Prop := ∃ c, LgAt w gl c ∧ c.d = d ∧ c.lives = lv
section
variable {w0 w w' : World} {d gl part : Nat} {S T : Nat → Prop} {off : Bool} {a : Nat} {base : List UInt8} {recs : List (List UInt8)} {n M k lv room : Nat} {cl : Prop}
theorem LX.bel (h : LX w0 w d gl part S a base recs n M k lv room cl) : Below w0.heap.size w0 w := by obtain ⟨c, s, G, _, _, _, _, _, _, _, _, h⟩ := h; exact h
theorem LX.new (h : LX w0 w d gl part S a base recs n M k lv room cl) : ∀ b, S b → w0.heap.size ≤ b := by obtain ⟨c, s, G, _, _, _, _, _, _, _, h, _⟩ := h; exact h
theorem LX.lt (h : LX w0 w d gl part S a base recs n M k lv room cl) : ∀ b, S b → b < w.heap.size := by obtain ⟨c, s, G, _, _, h, _⟩ := h; exact h.lt
theorem LX.turn (h : LX w0 w d gl part S a base recs n M k lv room cl) (ht : Turn w w' T) (hn : ∀ b, S b → ¬ T b) (hT : ∀ b, T b → w0.heap.size ≤ b) : LX w0 w' d gl part S a base recs n M k lv room cl := by
  obtain ⟨c, s, G, h1, h2, h3, h4, h5, h6, hcl, h7, h8⟩ := h
  exact ⟨c, s, G, h1, h2, h3.turn ht hn, h4, h5, h6, hcl, h7, h8.trans (ht.below h8.size hT)⟩
theorem LX.below (h : LX w0 w d gl part S a base recs n M k lv room cl) (hb : Below w.heap.size w w') : LX w0 w' d gl part S a base recs n M k lv room cl := h.turn (T := fun _ => False) (Turn.of_below hb) (fun _ _ h => h) fun _ h => h.elim
theorem LX.tst (h : LX w0 w d gl part S a base recs n M k lv room cl) (hT : Tabs w0) : TStay w S := TStay.of hT h.bel h.new
theorem LX.mono (h : LX w0 w d gl part S a base recs n M k lv room cl) {n' M' : Nat} (hn : n ≤ n') (hM : M ≤ M') : LX w0 w d gl part S a base recs n' M' k lv room cl := by
  obtain ⟨c, s, G, h1, h2, h3, h4⟩ := h
  exact ⟨c, s, G, h1, h2, h3.mono hn hM, h4⟩
theorem DX.bel (h : DX w0 w d S off a base recs n M lv room cl) : Below w0.heap.size w0 w := by obtain ⟨s, G, _, _, _, _, _, _, h⟩ := h; exact h
theorem DX.new (h : DX w0 w d S off a base recs n M lv room cl) : ∀ b, S b → w0.heap.size ≤ b := by obtain ⟨s, G, _, _, _, _, _, h, _⟩ := h; exact h
theorem DX.lt (h : DX w0 w d S off a base recs n M lv room cl) : ∀ b, S b → b < w.heap.size := by obtain ⟨s, G, h, _⟩ := h; exact h.lt
theorem DX.turn (h : DX w0 w d S off a base recs n M lv room cl) (ht : Turn w w' T) (hn : ∀ b, S b → ¬ T b) (hT : ∀ b, T b → w0.heap.size ≤ b) : DX w0 w' d S off a base recs n M lv room cl := by
  obtain ⟨s, G, h1, h2, h3, h4, hcl, h6, h7⟩ := h
  exact ⟨s, G, h1.turn ht hn, h2, h3, h4, hcl, h6, h7.trans (ht.below h7.size hT)⟩
theorem DX.below (h : DX w0 w d S off a base recs n M lv room cl) (hb : Below w.heap.size w w') : DX w0 w' d S off a base recs n M lv room cl := h.turn (T := fun _ => False) (Turn.of_below hb) (fun _ _ h => h) fun _ h => h.elim
theorem DeadL.turn (h : DeadL w gl d lv) (ht : Turn w w' T) (hn : ¬ T gl) : DeadL w' gl d lv := by
  obtain ⟨c, h1, h2⟩ := h
  exact ⟨c, (ht.block gl (Array.getElem?_eq_some_iff.1 h1).1 hn).trans h1, h2⟩
theorem DeadL.below (h : DeadL w gl d lv) (hb : Below w.heap.size w w') : DeadL w' gl d lv := h.turn (T := fun _ => False) (Turn.of_below hb) fun h => h
end
theorem ext_new {w0 w w' : World} {S : Nat → Prop} (h : ∀ b, S b → w0.heap.size ≤ b) (hb : w0.heap.size ≤ w.heap.size) : ∀ b, Ext w w' S b → w0.heap.size ≤ b := fun b hx => by
  rcases hx with hx | hx
  · exact h b hx
  · omega
theorem lx_new (w0 w : World) (room : Nat) (hb : Below w0.heap.size w0 w) (h : 64 ≤ room ∧ room ≤ 1048576) :
    Calls Tryz.prog 10 #[.int .i64 (room : Nat)] w fun e w' => (∃ d S, e = .returned (.tuple #[.pointer (some ⟨d, 0, none⟩), .int .i64 0]) ∧ DX w0 w' d S false 0 [] [] 0 0 1 room True ∧ ∀ b, S b → w.heap.size ≤ b) ∧ Below w.heap.size w w' := by
  refine (new_any room w h).mono ?_
  rintro e w' ⟨⟨d, rfl, S, h1, h2⟩, h3⟩
  exact ⟨⟨d, S, rfl, ⟨_, [], DLog.new h1, rfl, rfl, rfl, fun _ x hx => (by cases hx), fun b hs => Nat.le_trans hb.size (h2 b hs), bt hb h3⟩, h2⟩, h3⟩
theorem lx_open (w0 w : World) (d : Nat) (S : Nat → Prop) (a : Nat) (base : List UInt8) (recs : List (List UInt8)) (n M lv room part : Nat) (cl : Prop) (h : DX w0 w d S false a base recs n M lv room cl) (hT : Tabs w0) (hM : M ≤ 100000) (hp : 1 ≤ part ∧ part ≤ 1000) (hlen : recs.length ≤ 100000) :
    Calls Tryz.prog 11 #[.pointer (some ⟨d, 0, none⟩), .int .i64 (part : Nat)] w fun e w' => (∃ gl, e = .returned (.tuple #[.pointer (some ⟨gl, 0, none⟩), .int .i64 0]) ∧ LX w0 w' d gl part (Ext w w' S) a base recs n M recs.length lv room cl ∧ w.heap.size ≤ gl) ∧ Turn w w' S := by
  obtain ⟨s, G, h1, h2, h3, h4, hcl, h6, h7⟩ := h
  refine (dlog_open w d S s a G base recs n M part h1 (hT.below h7) (by omega) h2 hp (by omega)).mono ?_
  rintro e w' ⟨⟨gl, c, s', G', rfl, c1, c2, c3, c4, c5, c6, c7, c8⟩, ht⟩
  refine ⟨⟨gl, rfl, ⟨c, s', G', c1, c2, c4, c5.trans h3, c6.trans h4, ?_, fun x => c8 (hcl x), ext_new h6 h7.size, h7.trans (ht.below h7.size h6)⟩, c3⟩, ht⟩
  rw [C.safeN_all c7, Nat.add_comm]
  exact c4.num
theorem lx_add (w0 w : World) (d gl part : Nat) (S : Nat → Prop) (a : Nat) (base : List UInt8) (recs : List (List UInt8)) (n M k lv room : Nat) (cl : Prop) (p : Option Addr) (ps : List Part) (cap : Nat) (h : LX w0 w d gl part S a base recs n M k lv room cl) (hT : Tabs w0) (ho : Stay w S p ps) (hr : ∀ x ∈ ps, x.l.length ≤ 570) (hn : n + ps.length ≤ 998) (hroom : 600 * (n + ps.length) ≤ room) (hM : M + 1 + ps.length ≤ 100000) (hlen : recs.length + ps.length ≤ 100000) (hcap : ps.length ≤ cap) (hcapm : cap ≤ maxLen) :
    Calls Tryz.prog 12 #[.pointer (some ⟨gl, 0, none⟩), .slice p ps.length cap] w fun e w' => e = .returned (.int .i64 0) ∧ LX w0 w' d gl part (Ext w w' S) a base (recs ++ ps.map Part.l) (n + ps.length) (M + 1 + ps.length) k lv room cl ∧ Turn w w' S := by
  have hts := h.tst hT
  obtain ⟨c, s, G, h1, h2, h3, h4, h5, h6, hcl, h7, h8⟩ := h
  refine (logm_add w gl c S s a G base recs n M p ps cap h3 hts ho hr hn (Or.inl (by rw [h5]; exact hroom)) hM hlen hcap hcapm).mono ?_
  rintro e w' ⟨rfl, ⟨c', s', G', c1, c2, c3, c4, c5, c6⟩, ht⟩
  exact ⟨rfl, ⟨c', s', G', c2.trans h1, c3.trans h2, c1, c4.trans h4, c5.trans h5, by rw [c6.1]; exact h6, fun x => c6.2 (hcl x), ext_new h7 h8.size, h8.trans (ht.below h8.size h7)⟩, ht⟩
theorem lx_sync (w0 w : World) (d gl part : Nat) (S : Nat → Prop) (a : Nat) (base : List UInt8) (recs : List (List UInt8)) (n M k lv room : Nat) (cl : Prop) (h : LX w0 w d gl part S a base recs n M k lv room cl) (hM : M ≤ 100000) :
    Calls Tryz.prog 15 #[.pointer (some ⟨gl, 0, none⟩)] w fun e w' => e = .returned (.int .i64 0) ∧ LX w0 w' d gl part S a base recs n M recs.length lv room cl ∧ Turn w w' S := by
  obtain ⟨c, s, G, h1, h2, h3, h4, h5, h6, hcl, h7, h8⟩ := h
  refine (logm_sync w gl c S s a G base recs n M h3 hM).mono ?_
  rintro e w' ⟨rfl, ⟨c', s', G', c1, c2, c3, c4, c5, c6⟩, ht⟩
  refine ⟨rfl, ⟨c', s', G', c2.trans h1, c3.trans h2, c1, c4.trans h4, c5.trans h5, ?_, fun x => c6.2 (hcl x), h7, h8.trans (ht.below h8.size h7)⟩, ht⟩
  rw [C.safeN_all c6.1, Nat.add_comm]
  exact c1.num
theorem lx_keep (w0 w : World) (d gl part : Nat) (S : Nat → Prop) (a : Nat) (base : List UInt8) (recs : List (List UInt8)) (n M k lv room : Nat) (cl : Prop) (p : Option Addr) (l : List UInt8) (cap : Nat) (h : LX w0 w d gl part S a base recs n M k lv room cl) (hT : Tabs w0) (hx : Stay1 w S ⟨p, l, cap⟩) (hl : l.length ≤ 570) (hn : n + 1 ≤ 998) (hroom : 600 * (n + 1) ≤ room) (hM : M + 1 ≤ 100000) (ha : a + 1 < 4294967296) :
    Calls Tryz.prog 14 #[.pointer (some ⟨gl, 0, none⟩), .slice p l.length cap] w fun e w' => e = .returned (.int .i64 0) ∧ LX w0 w' d gl part (Ext w w' S) (a + 1) l [] (n + 1) (M + 1) 0 lv room True ∧ Turn w w' S := by
  have hts := h.tst hT
  obtain ⟨c, s, G, h1, h2, h3, h4, h5, h6, hcl, h7, h8⟩ := h
  refine (logm_keep w gl c S s a G base recs n M p l cap h3 hts hx hl hn (by rw [h5]; exact hroom) hM ha).mono ?_
  rintro e w' ⟨rfl, ⟨c', s', G', c1, c2, c3, c4, c5, c6⟩, ht⟩
  refine ⟨rfl, ⟨c', s', G', c2.trans h1, c3.trans h2, c1, c4.trans h4, c5.trans h5, ?_, fun _ => c6.2, ext_new h7 h8.size, h8.trans (ht.below h8.size h7)⟩, ht⟩
  rw [C.safeN_all c6.1, Nat.add_comm]
  exact c1.num
theorem lx_done (w0 w : World) (d gl part : Nat) (S : Nat → Prop) (a : Nat) (base : List UInt8) (recs : List (List UInt8)) (n M k lv room : Nat) (cl : Prop) (h : LX w0 w d gl part S a base recs n M k lv room cl) :
    Calls Tryz.prog 18 #[.pointer (some ⟨gl, 0, none⟩)] w fun e w' => e = .returned (.bool false) ∧ Below w.heap.size w w' := by
  obtain ⟨c, s, G, h1, h2, h3, h4⟩ := h
  exact logm_done w gl c S s a G base recs recs n M h3
theorem lx_base (w0 w : World) (d gl part : Nat) (S : Nat → Prop) (a : Nat) (base : List UInt8) (recs : List (List UInt8)) (n M k lv room : Nat) (cl : Prop) (h : LX w0 w d gl part S a base recs n M k lv room cl) :
    Calls Tryz.prog 19 #[.pointer (some ⟨gl, 0, none⟩)] w fun e w' => (∃ p c, e = .returned (.slice p base.length c) ∧ Part.ok w' ⟨p, base, c⟩) ∧ Below w.heap.size w w' := by
  obtain ⟨c, s, G, h1, h2, h3, h4⟩ := h
  refine (logm_base w gl c S s a G base recs recs n M h3).mono ?_
  rintro e w' ⟨⟨v, rfl, ho⟩, hb⟩
  obtain ⟨p, c, rfl, hp⟩ := Own.part ho
  exact ⟨⟨p, c, rfl, hp⟩, hb⟩
/-- A row of rows that stays while only these blocks are turned. -/
def RStay (w : World) (S : Nat → Prop) (v : Value) (L : List (List UInt8)) : Prop := ∀ W, Turn w W S → Rows W v L
section
variable {w w1 : World} {S T : Nat → Prop} {v : Value} {L : List (List UInt8)}
theorem RStay.now (h : RStay w S v L) : Rows w v L := h w (Turn.refl w S)
theorem RStay.ext (h : RStay w S v L) (ht : Turn w w1 S) : RStay w1 (Ext w w1 S) v L := fun W hW => h W (ht.ext hW)
theorem RStay.turn (h : RStay w S v L) (ht : Turn w w1 S) : RStay w1 S v L := fun W hW => h W (ht.trans hW fun x hx => Or.inl hx)
theorem RStay.sub (h : RStay w S v L) (hT : ∀ b, T b → S b) : RStay w T v L := fun W hW => h W (hW.mono hT)
theorem RStay.of {w0 : World} (h : Rows w0 v L) (hb : Below w0.heap.size w0 w) (hs : ∀ b, S b → w0.heap.size ≤ b) : RStay w S v L := fun W hW => h.below (hb.trans (hW.below hb.size hs))
theorem RecsOwn.rstay {B : Nat} (h : RecsOwn w B v L) (hS : ∀ b, S b → b < B) : RStay w S v L := fun W hW => by
  obtain ⟨ps, h1, h2, h3⟩ := h
  have hk : ∀ b, B ≤ b → b < w.heap.size → W.heap[b]? = w.heap[b]? := fun b hb hl => hW.block b hl fun hs => by
    have := hS b hs
    omega
  have h4 : OwnP W B v ps := h1.same fun b hb => hk b (h1.ge b hb) (row_lt h1 hb)
  have h5 := h4.rows fun x hx => (Own.same (h2 x hx) fun b hb => hk b ((h2 x hx).ge b hb) (row_lt (h2 x hx) hb)).okAt rfl
  rw [h3] at h5
  exact h5
theorem rows_lits {w2 : World} (ps : List Part) (t : TypeId) (m : Nat × Nat) {A : Nat} (hA : w2.heap.size = A) (hok : ∀ x ∈ ps, x.ok w2) (hl : ps.length ≤ maxLen) : Rows (w2.alloc (.cells (ps.map Part.v).toArray t m)) (.slice (some ⟨A, 0, none⟩) ps.length ps.length) (ps.map Part.l) := by
  subst hA
  exact ⟨_, ps, _, rfl, pat_new w2 ps t m, fun x hx => Part.ok.below (hok x hx) (below_new _ _), rfl, Nat.le_refl _, hl⟩
end
theorem LX.dx {w0 w : World} {d gl part : Nat} {S : Nat → Prop} {a : Nat} {base : List UInt8} {recs : List (List UInt8)} {n M k lv room : Nat} {cl : Prop} (h : LX w0 w d gl part S a base recs n M k lv room cl) : DX w0 w d S false a base recs n M lv room cl := by
  obtain ⟨c, s, G, rfl, h2, h3, h4, h5, h6, hcl, h7, h8⟩ := h
  exact ⟨s, G, h3.dlog, h3.off, h4, h5, hcl, h7, h8⟩
theorem lx_all (w0 w : World) (d gl part : Nat) (S : Nat → Prop) (a : Nat) (base : List UInt8) (recs : List (List UInt8)) (n M k lv room : Nat) (cl : Prop) (h : LX w0 w d gl part S a base recs n M k lv room cl) (hk : recs.length ≤ 100000) :
    Calls Tryz.prog 13 #[.pointer (some ⟨gl, 0, none⟩)] w fun e w' => (∃ p c, e = .returned (.slice p recs.length c) ∧ c ≤ maxLen ∧ RStay w' S (.slice p recs.length c) recs) ∧ Below w.heap.size w w' := by
  have hlt := h.lt
  obtain ⟨c, s, G, h1, h2, h3, h4⟩ := h
  refine (logm_all w gl c S s a G base recs n M h3 hk).mono ?_
  rintro e w' ⟨⟨v, rfl, ho⟩, hb⟩
  have h5 := ho.rstay hlt
  obtain ⟨p, c, rfl, hc⟩ := ho.len
  exact ⟨⟨p, c, rfl, hc, h5⟩, hb⟩
/-- A fall: what is there then; the log in memory is dead. -/
theorem lx_crash (w0 w : World) (d gl part : Nat) (S : Nat → Prop) (a : Nat) (base : List UInt8) (recs : List (List UInt8)) (n M k lv room : Nat) (cl : Prop) (keep torn : Int) (h : LX w0 w d gl part S a base recs n M k lv room cl) (hM : M ≤ 1000000) (hk1 : -9223372036854775808 ≤ keep) (hk2 : keep ≤ 9223372036854775807) (ht1 : -9223372036854775808 ≤ torn) (ht2 : torn ≤ 9223372036854775807) :
    Calls Tryz.prog 16 #[.pointer (some ⟨d, 0, none⟩), .int .i64 keep, .int .i64 torn] w fun e w' => e = .returned (.tuple #[]) ∧ (∃ j T, DX w0 w' d T true a base (recs.take j) n M lv room False ∧ k ≤ j ∧ j ≤ recs.length ∧ ((keep < 0 ∨ keep = 0 ∧ torn ≤ 0) → j = k) ∧ DeadL w' gl d lv ∧ ¬ T gl ∧ (∀ b, T b → Ext w w' S b)) ∧ Turn w w' S := by
  obtain ⟨c, s, G, rfl, h2, h3, h4, h5, h6, hcl, h7, h8⟩ := h
  obtain ⟨Sl, Sd, dl, hL, hD, hSl, hSd, hne, _⟩ := h3.sets
  have hdl : DLog w c.d Sd s a G base recs n M := ⟨⟨Sd, hD, fun b hb => hb⟩, fun b hb => hD.lt hb, h3.log, h3.hold, h3.base0, h3.bud⟩
  refine (dlog_crash w c.d Sd s a G base recs n M keep torn hdl hM hk1 hk2 ht1 ht2).mono ?_
  rintro e w' ⟨rfl, ⟨s', G', j, g1, g2, g3, g4, g5, g6, g7, g8⟩, ht⟩
  have hgl : gl < w.heap.size := hL.lt gl hL.mem
  have hng : ¬ Sd gl := fun hs => hne gl hL.mem hs
  have htS : Turn w w' S := ht.mono hSd
  refine ⟨rfl, ⟨j, Ext w w' Sd, ⟨s', G', g1, g2, g3.trans h4, g4.trans h5, (fun x => x.elim), ext_new (fun b hb => h7 b (hSd b hb)) h8.size, h8.trans (htS.below h8.size h7)⟩, by omega, g6, fun hk => by have := g8 hk; omega, ⟨c, (ht.block gl hgl hng).trans hL.at_, rfl, h3.lives.trans h4⟩, fun hx => ?_, ext_mono hSd⟩, htS⟩
  rcases hx with hx | hx
  · exact hng hx
  · omega
theorem lx_on (w0 w : World) (d : Nat) (S : Nat → Prop) (off : Bool) (a : Nat) (base : List UInt8) (recs : List (List UInt8)) (n M lv room : Nat) (cl : Prop) (h : DX w0 w d S off a base recs n M lv room cl) (hl : lv ≤ 1000000) :
    Calls Tryz.prog 17 #[.pointer (some ⟨d, 0, none⟩)] w fun e w' => e = .returned (.tuple #[]) ∧ DX w0 w' d S false a base recs n M (lv + 1) room cl ∧ Turn w w' S := by
  obtain ⟨s, G, h1, h2, h3, h4, hcl, h6, h7⟩ := h
  refine (dlog_on w d S s a G base recs n M h1 (by rw [h3]; exact hl)).mono ?_
  rintro e w' ⟨rfl, hd, ht⟩
  exact ⟨rfl, ⟨_, G, hd, rfl, by show s.lives + 1 = _; rw [h3], h4, hcl, h6, h7.trans (ht.below h7.size h6)⟩, ht⟩
theorem dead_done {w : World} {c : LgC} {s : C.St} (h : s.off = true ∨ s.lives ≠ c.lives) : doneB c s = true := by
  unfold doneB
  rcases h with h | h
  · rw [h]; simp
  · simp [h]
theorem dx_dead {w0 w : World} {d gl : Nat} {S : Nat → Prop} {off : Bool} {a : Nat} {base : List UInt8} {recs : List (List UInt8)} {n M lv lv2 room : Nat} {cl : Prop} (h : DX w0 w d S off a base recs n M lv room cl) (hd : DeadL w gl d lv2) (ho : off = true ∨ lv ≠ lv2) : ∃ c S s, LgAt w gl c ∧ c.d = d ∧ Disk w d S s ∧ doneB c s = true := by
  obtain ⟨s, G, h1, h2, h3, _⟩ := h
  obtain ⟨Sd, h4, _⟩ := h1.disk
  obtain ⟨c, g1, g2, g3⟩ := hd
  exact ⟨c, Sd, s, g1, g2, h4, dead_done (w := w) (by rw [h2, h3, g3]; exact ho)⟩
theorem lx_dead_done (w0 w : World) (d gl : Nat) (S : Nat → Prop) (off : Bool) (a : Nat) (base : List UInt8) (recs : List (List UInt8)) (n M lv lv2 room : Nat) (cl : Prop) (h : DX w0 w d S off a base recs n M lv room cl) (hd : DeadL w gl d lv2) (ho : off = true ∨ lv ≠ lv2) :
    Calls Tryz.prog 18 #[.pointer (some ⟨gl, 0, none⟩)] w fun e w' => e = .returned (.bool true) ∧ Below w.heap.size w w' := by
  obtain ⟨c, Sd, s, g1, rfl, g3, g4⟩ := dx_dead h hd ho
  have := done_any w gl c Sd s g1 g3
  rw [g4] at this
  exact this
theorem lx_dead_sync (w0 w : World) (d gl : Nat) (S : Nat → Prop) (off : Bool) (a : Nat) (base : List UInt8) (recs : List (List UInt8)) (n M lv lv2 room : Nat) (cl : Prop) (h : DX w0 w d S off a base recs n M lv room cl) (hd : DeadL w gl d lv2) (ho : off = true ∨ lv ≠ lv2) :
    Calls Tryz.prog 15 #[.pointer (some ⟨gl, 0, none⟩)] w fun e w' => e = .returned (.int .i64 7) ∧ Below w.heap.size w w' := by
  obtain ⟨c, Sd, s, g1, rfl, g3, g4⟩ := dx_dead h hd ho
  exact sync_done w gl c Sd s g1 g3 g4
theorem lx_dead_add (w0 w : World) (d gl : Nat) (S : Nat → Prop) (off : Bool) (a : Nat) (base : List UInt8) (recs : List (List UInt8)) (n M lv lv2 room : Nat) (cl : Prop) (p : Option Addr) (ps : List Part) (cap : Nat) (h : DX w0 w d S off a base recs n M lv room cl) (hd : DeadL w gl d lv2) (ho : off = true ∨ lv ≠ lv2) (hp : PAt w p ps) (hk : ps.length ≤ 100000) (hl : ∀ x ∈ ps, x.l.length ≤ 65536) :
    Calls Tryz.prog 12 #[.pointer (some ⟨gl, 0, none⟩), .slice p ps.length cap] w fun e w' => e = .returned (.int .i64 7) ∧ Below w.heap.size w w' := by
  obtain ⟨c, Sd, s, g1, rfl, g3, g4⟩ := dx_dead h hd ho
  exact add_done w gl c Sd s p ps cap g1 g3 g4 hp hk hl
theorem lx_open_off (w0 w : World) (d : Nat) (S : Nat → Prop) (a : Nat) (base : List UInt8) (recs : List (List UInt8)) (n M lv room part : Nat) (cl : Prop) (h : DX w0 w d S true a base recs n M lv room cl) (hp : 1 ≤ part ∧ part ≤ 1000) :
    Calls Tryz.prog 11 #[.pointer (some ⟨d, 0, none⟩), .int .i64 (part : Nat)] w fun e w' => e = .returned (.tuple #[.pointer none, .int .i64 7]) ∧ w' = w := by
  obtain ⟨s, G, h1, h2, _⟩ := h
  obtain ⟨Sd, h4, _⟩ := h1.disk
  exact open_off w d Sd s part h4 hp h2
/-- A row of rows, new in the world at hand. -/
theorem new_stay {w : World} {S : Nat → Prop} {p : Option Addr} {ps : List Part} (hrow : PAt w p ps) (hok : ∀ x ∈ ps, x.ok w) (hp : ∀ a, p = some a → ¬ S a.block) (hx : ∀ x ∈ ps, ∀ a, x.p = some a → ¬ S a.block) : Stay w S p ps := Out.stay ⟨hrow, fun a ha _ => hp a ha, hok, fun x hm a ha _ => hx x hm a ha⟩
end Go.Proofs.YtnhplbdbgiimkaaGreatDoor

namespace Go.Proofs.YtnhplbdbgiimkaaGreatDoor
open Go.RowKit Go.Lib
set_option linter.unusedVariables false

/-- Rows of bytes that were laid as literals. -/
theorem lits_stay {w w2 : World} {S : Nat → Prop} (ps : List Part) (t : TypeId) (m : Nat × Nat) {A : Nat} (hA : w2.heap.size = A) (hb : Below w.heap.size w w2) (hlt : ∀ b, S b → b < w.heap.size) (hok : ∀ x ∈ ps, x.ok w2 ∧ ∀ a, x.p = some a → w.heap.size ≤ a.block) : Stay (w2.alloc (.cells (ps.map Part.v).toArray t m)) S (some ⟨A, 0, none⟩) ps := by
  subst hA
  refine new_stay (pat_new w2 ps t m) (fun x hx => Part.ok.below (hok x hx).1 (below_new _ _)) (fun a ha hs => ?_) fun x hx a ha hs => ?_
  · cases ha
    have := hlt _ hs
    have := hb.size
    simp only at *
    omega
  · have h1 := (hok x hx).2 a ha
    have := hlt _ hs
    omega
theorem lit1_stay {w : World} {S : Nat → Prop} (hlt : ∀ b, S b → b < w.heap.size) (l : List UInt8) (c : Nat) (t : TypeId) (m m2 : Nat × Nat) (hl : l.length ≤ maxLen) : Stay ((w.alloc (.cells (l.map fun b => Value.int .u8 (b.toNat : Nat)).toArray 5 m)).alloc (.cells #[.slice (some ⟨w.heap.size, 0, none⟩) l.length c] t m2)) S (some ⟨w.heap.size + 1, 0, none⟩) [⟨some ⟨w.heap.size, 0, none⟩, l, c⟩] :=
  lits_stay (w := w) [⟨some ⟨w.heap.size, 0, none⟩, l, c⟩] t m2 (by simp [World.size_alloc]) (below_new _ _) hlt fun x hx => by
    obtain rfl := List.mem_singleton.1 hx
    exact ⟨⟨hl, bat_new w l _ _⟩, fun a ha => by cases ha; exact Nat.le_refl _⟩
theorem rows_lit1 (w : World) (l : List UInt8) (c : Nat) (t : TypeId) (m m2 : Nat × Nat) (hl : l.length ≤ maxLen) : Rows ((w.alloc (.cells (l.map fun b => Value.int .u8 (b.toNat : Nat)).toArray 5 m)).alloc (.cells #[.slice (some ⟨w.heap.size, 0, none⟩) l.length c] t m2)) (.slice (some ⟨w.heap.size + 1, 0, none⟩) 1 1) [l] :=
  rows_lits [⟨some ⟨w.heap.size, 0, none⟩, l, c⟩] t m2 (by simp [World.size_alloc]) (fun x hx => by
    obtain rfl := List.mem_singleton.1 hx
    exact ⟨hl, bat_new w l _ _⟩) (show (1 : Nat) ≤ maxLen by unfold maxLen; decide)
theorem rows_lit2 (w : World) (l k : List UInt8) (c e : Nat) (t : TypeId) (m m2 m3 : Nat × Nat) (hl : l.length ≤ maxLen) (hk : k.length ≤ maxLen) : Rows (((w.alloc (.cells (l.map fun b => Value.int .u8 (b.toNat : Nat)).toArray 5 m)).alloc (.cells (k.map fun b => Value.int .u8 (b.toNat : Nat)).toArray 5 m2)).alloc (.cells #[.slice (some ⟨w.heap.size, 0, none⟩) l.length c, .slice (some ⟨w.heap.size + 1, 0, none⟩) k.length e] t m3)) (.slice (some ⟨w.heap.size + 1 + 1, 0, none⟩) 2 2) [l, k] :=
  rows_lits [⟨some ⟨w.heap.size, 0, none⟩, l, c⟩, ⟨some ⟨w.heap.size + 1, 0, none⟩, k, e⟩] t m3 (by simp [World.size_alloc]) (fun x hx => by
    rcases List.mem_cons.1 hx with rfl | hx
    · exact Part.ok.below ⟨hl, bat_new w l _ _⟩ (below_new _ _)
    · obtain rfl := List.mem_singleton.1 hx
      have h1 := bat_new (w.alloc (.cells (l.map fun b => Value.int .u8 (b.toNat : Nat)).toArray 5 m)) k 5 m2
      rw [World.size_alloc] at h1
      exact ⟨hk, h1⟩) (show (2 : Nat) ≤ maxLen by unfold maxLen; decide)
theorem below_two (w : World) (a b : Obj) : Below w.heap.size w ((w.alloc a).alloc b) := bt (below_new _ _) (below_new _ _)
set_option maxRecDepth 100000 in
set_option maxHeartbeats 8000000 in
theorem awake6_any (w : World) (hT : Tabs w) : Calls Tryz.prog 9 #[] w fun e w' => e = .returned (.bool true) ∧ Below w.heap.size w w' := by
  have HT : Hid (Tabs w) := hT
  clear hT
  have kc := fun (w : World) (C : Array Value) (n c : Nat) => Lib.run_convert_bytes_const (P := Tryz.prog) w 31 5 C n c Tryz.underlying31 Tryz.underlying5
  have kc2 := fun (w : World) (o : Obj) (C : Array Value) (n c : Nat) => Go.Joins.run_convert_bytes_const_at (P := Tryz.prog) (w.alloc o) 31 5 C n c (w.heap.size + 1) (by rw [World.size_alloc]) Tryz.underlying31 Tryz.underlying5
  go_enter Tryz.func9, Tryz.ntmps9
  go_wp2_with fail
  refine (lx_new w w 10000 (Below.refl _ _) (by decide)).mono ?_
  rintro e w1 ⟨⟨d, S1, rfl, hd1, -⟩, hb1⟩
  have HD1 := hidOf hd1
  clear hd1 hb1
  go_wp2_with fail
  refine (lx_open w w1 d S1 0 [] [] 0 0 1 10000 2 True HD1.out HT.out (by omega) (by omega) (by simp)).mono ?_
  rintro e w2 ⟨⟨gl, rfl, hlx2, -⟩, ht2⟩
  have HLX2 := hidOf (show LX w w2 d gl 2 _ 0 [] [] 0 0 0 1 10000 True from hlx2)
  clear hlx2 ht2 HD1
  go_wp2_with fail
  refine (lx_add w _ d gl 2 _ 0 [] [] 0 0 0 1 10000 True _ [⟨some ⟨w2.heap.size, 0, none⟩, [120], 1⟩] 1 (HLX2.out.below (below_two _ _ _)) HT.out (lit1_stay HLX2.out.lt [120] 1 _ _ _ (by decide)) (by simp) (by simp) (by simp) (by simp) (by simp) (by simp) (by decide)).mono ?_
  rintro e w3 ⟨rfl, hlx3, -⟩
  have HLX3 := hidOf (show LX w w3 d gl 2 _ 0 [] [[120]] 1 2 0 1 10000 True from hlx3)
  clear hlx3 HLX2
  go_wp2_with fail
  refine (lx_sync w _ d gl 2 _ 0 [] _ _ _ _ 1 10000 True HLX3.out (by decide)).mono ?_
  rintro e w4 ⟨rfl, hlx4, -⟩
  have HLX4 := hidOf (show LX w w4 d gl 2 _ 0 [] [[120]] 1 2 1 1 10000 True from hlx4)
  clear hlx4 HLX3
  go_wp2_with fail
  refine (lx_add w _ d gl 2 _ 0 [] _ _ _ _ 1 10000 True _ [⟨some ⟨w4.heap.size, 0, none⟩, [121], 1⟩] 1 (HLX4.out.below (below_two _ _ _)) HT.out (lit1_stay HLX4.out.lt [121] 1 _ _ _ (by decide)) (by simp) (by simp) (by simp) (by simp) (by simp) (by simp) (by decide)).mono ?_
  rintro e w5 ⟨rfl, hlx5, -⟩
  have HLX5 := hidOf (show LX w w5 d gl 2 _ 0 [] [[120], [121]] 2 4 1 1 10000 True from hlx5)
  clear hlx5 HLX4
  go_wp2_with fail
  refine (lx_all w _ d gl 2 _ 0 [] _ _ _ _ 1 10000 True HLX5.out (by decide)).mono ?_
  rintro e w6 ⟨⟨mp, mc, rfl, hmc, hrs6⟩, hb6⟩
  have HLX6 := hidOf (HLX5.out.below hb6)
  have HRS6 := hidOf hrs6
  clear hrs6 hb6 HLX5
  go_wp2_with fail
  refine (lx_crash w _ d gl 2 _ 0 [] _ _ _ _ 1 10000 True 0 0 HLX6.out (by decide) (by decide) (by decide) (by decide) (by decide)).mono ?_
  rintro e w7 ⟨rfl, ⟨j, T7, hd7, -, -, hj, -, -, hT7⟩, ht7⟩
  obtain rfl := hj (Or.inr ⟨rfl, by decide⟩)
  have HD7 := hidOf (show DX w w7 d T7 true 0 [] [[120]] 2 4 1 10000 False from hd7)
  have HRS7 := hidOf ((HRS6.out.ext ht7).sub hT7)
  clear hd7 hT7 ht7 hj HLX6 HRS6
  go_wp2_with fail
  refine (lx_on w _ d _ _ 0 [] _ _ _ 1 10000 _ HD7.out (by decide)).mono ?_
  rintro e w8 ⟨rfl, hd8, ht8⟩
  have HD8 := hidOf hd8
  have HRS8 := hidOf (HRS7.out.turn ht8)
  clear hd8 ht8 HD7 HRS7
  go_wp2_with fail
  refine (lx_open w _ d _ 0 [] _ _ _ _ 10000 2 _ HD8.out HT.out (by decide) (by decide) (by decide)).mono ?_
  rintro e w9 ⟨⟨gl2, rfl, hlx9, -⟩, ht9⟩
  have HLX9 := hidOf (show LX w w9 d gl2 2 _ 0 [] [[120]] 2 4 1 2 10000 False from hlx9)
  have HRS9 := hidOf (HRS8.out.ext ht9)
  clear hlx9 ht9 HD8 HRS8
  go_wp2_with fail
  refine (same_any _ _ [[120], [121]] [[120], [121]] _ (HRS9.out.now.below (bt (below_two _ _ _) (below_new _ _))) (rows_lit2 w9 [120] [121] 1 1 _ _ _ _ (by decide) (by decide))).mono ?_
  rintro e w10 ⟨he, hb10⟩
  rw [decide_eq_true rfl] at he
  subst he
  have HLX10 := hidOf (HLX9.out.below (bt (bt (below_two _ _ _) (below_new _ _)) hb10))
  clear hb10 HLX9 HRS9
  go_wp2_with fail
  refine (lx_all w _ d gl2 2 _ 0 [] _ _ _ _ 2 10000 False HLX10.out (by decide)).mono ?_
  rintro e w11 ⟨⟨mp2, mc2, rfl, hmc2, hrs11⟩, hb11⟩
  have HLX11 := hidOf (HLX10.out.below hb11)
  have HRS11 := hidOf hrs11
  clear hrs11 hb11 HLX10
  go_wp2_with fail
  refine (same_any _ _ [[120]] [[120]] _ (HRS11.out.now.below (below_two _ _ _)) (rows_lit1 w11 [120] 1 _ _ _ (by decide))).mono ?_
  rintro e w12 ⟨he, hb12⟩
  rw [decide_eq_true rfl] at he
  subst he
  have HLX12 := hidOf (HLX11.out.below (bt (below_two _ _ _) hb12))
  clear hb12 HLX11 HRS11
  go_wp2_with fail
  refine (lx_base w _ d gl2 2 _ 0 [] _ _ _ _ 2 10000 False HLX12.out).mono ?_
  rintro e w13 ⟨⟨bp, bc, rfl, -⟩, hb13⟩
  have HLX13 := hidOf (HLX12.out.below hb13)
  clear hb13 HLX12
  go_wp2
  go_ret
  exact ⟨rfl, HLX13.out.bel⟩
end Go.Proofs.YtnhplbdbgiimkaaGreatDoor

namespace Go.Proofs.YtnhplbdbgiimkaaGreatDoor
open Go.RowKit Go.Lib
set_option linter.unusedVariables false

theorem PlM.turn {w w' : World} {gl : Nat} {c : LgC} {S T : Nat → Prop} {s : C.St} {a : Nat} {G : List C.Gr} {base : List UInt8} {recs drecs : List (List UInt8)} {n M : Nat} (h : PlM w gl c S s a G base recs drecs n M) (ht : Turn w w' T) (hn : ∀ b, S b → ¬ T b) : PlM w' gl c S s a G base recs drecs n M := by
  obtain ⟨Sl, Sd, dl, h1, h2, h3, h4, h5⟩ := h.sets
  exact ⟨⟨Sl, Sd, dl, h1.turn ht fun b hb => hn b (h3 b hb), h2.turn ht fun b hb => hn b (h4 b hb), h3, h4, h5⟩, fun b hb => Nat.lt_of_lt_of_le (h.lt b hb) ht.size, h.log, h.hold, h.base0, h.tt, h.tf, h.file, h.tc, h.off, h.lives, h.full, h.age, h.part, h.bud⟩
theorem PlM.super {w : World} {gl : Nat} {c : LgC} {S T : Nat → Prop} {s : C.St} {a : Nat} {G : List C.Gr} {base : List UInt8} {recs drecs : List (List UInt8)} {n M : Nat} (h : PlM w gl c S s a G base recs drecs n M) (hs : ∀ b, S b → T b) (ht : ∀ b, T b → b < w.heap.size) : PlM w gl c T s a G base recs drecs n M := by
  obtain ⟨Sl, Sd, dl, h1, h2, h3, h4, h5⟩ := h.sets
  exact ⟨⟨Sl, Sd, dl, h1, h2, fun b hb => hs b (h3 b hb), fun b hb => hs b (h4 b hb), h5⟩, ht, h.log, h.hold, h.base0, h.tt, h.tf, h.file, h.tc, h.off, h.lives, h.full, h.age, h.part, h.bud⟩
set_option maxRecDepth 100000 in
set_option maxHeartbeats 8000000 in
theorem logm_write_bad (w : World) (gl : Nat) (c : LgC) (S : Nat → Prop) (s : C.St) (a : Nat) (G : List C.Gr) (base : List UInt8) (recs : List (List UInt8)) (n M : Nat) (p : Option Addr) (ps : List Part) (cap : Nat) (h : LogM w gl c S s a G base recs recs n M) (hT : TStay w S) (ho : Stay w S p ps) (hr : ∀ x ∈ ps, x.l.length ≤ 570) (hn : n + ps.length ≤ 998) (hroom : ps.length = 1 ∧ s.room < C.used s.ws + (C.ents a (recs.length + 1) (ps.map Part.l)).length) (hM : M + ps.length ≤ 100000) (hlen : recs.length + ps.length ≤ 100000) (hcap : ps.length ≤ cap) (hcapm : cap ≤ maxLen) :
    Calls Tryz.prog 36 #[.pointer (some ⟨gl, 0, none⟩), .slice p ps.length cap] w fun e w' => e = .returned (.bool false) ∧ (∃ c1 s' G', PlM w' gl c1 (Ext w w' S) s' a G' base recs recs n M ∧ c1.d = c.d ∧ s'.lives = s.lives ∧ s'.room = s.room) ∧ Turn w w' S := by
  have HI0 : Hid (WrI w w gl c S s a G base recs n M ps 0 p cap c s G) := ⟨by
    have h1 := h.super (T := Ext w w S) (fun b hb => Or.inl hb) (ext_lt h.lt (Turn.refl w S))
    simpa using h1, Turn.refl w S, fun W hW => (ho W hW).1, by simpa using hcap, hcapm, rfl, rfl, rfl, rfl, rfl, fun _ => rfl, C.Kept.refl G⟩
  obtain ⟨lp, lc, hlv, -, -⟩ : ∃ p k, c.recs = .slice p recs.length k ∧ recs.length ≤ k ∧ k ≤ maxLen := by
    obtain ⟨Sl, Sd, dl, hL, _⟩ := h.sets
    exact hL.recs.len
  have c6 : w.cell? ⟨gl, 6, none⟩ = some (.slice lp recs.length lc) := by
    obtain ⟨Sl, Sd, dl, hL, _⟩ := h.sets
    rw [← hlv]
    exact (hL.at_.cell 6).trans rfl
  have HT : Hid (TStay w S) := hT
  have HO : Hid (Stay w S p ps) := ho
  have HR : Hid (∀ x ∈ ps, x.l.length ≤ 570) := hr
  have HN : Hid (n + ps.length ≤ 998) := hn
  have HRM : Hid (ps.length = 1 ∧ s.room < C.used s.ws + (C.ents a (recs.length + 1) (ps.map Part.l)).length) := hroom
  have HMM : Hid (M + ps.length ≤ 100000) := hM
  have HLEN : Hid (recs.length + ps.length ≤ 100000) := hlen
  obtain ⟨m, hm⟩ : ∃ m, m = ps.length := ⟨_, rfl⟩
  have HM : Hid (m = ps.length) := hm
  rw [← hm]
  obtain ⟨ln, hln⟩ : ∃ ln, ln = recs.length := ⟨_, rfl⟩
  have HLN : Hid (ln = recs.length) := hln
  rw [← hln] at c6
  have hln1 : ln ≤ 100000 := by omega
  have hm1 : m ≤ 998 := by omega
  clear h hT ho hr hn hroom hM hlen hcap hcapm hm hln hlv
  go_enter Tryz.func36, Tryz.ntmps36
  go_wp2_with fail
  clear c6
  go_loopw [1, 5] (fun s1 s5 wr => ∃ (k q : Nat) (p' : Option Addr) (cap' : Nat) (c' : LgC) (s' : C.St) (G' : List C.Gr), s1 = .slice p' q cap' ∧ s5 = .int .i64 ((ln + 1 + k : Nat) : Int) ∧ (k + q = m ∧ k = 0) ∧ Hid (WrI w wr gl c S s a G base recs n M ps k p' cap' c' s' G')) (fun s1 _ _ => match s1 with | .slice _ q _ => q | _ => 0)
  case atStart => exact ⟨0, m, p, cap, c, s, G, rfl, by go_num, ⟨by omega, rfl⟩, HI0⟩
  case round =>
    obtain ⟨k, q, p', cap', c', s', G', rfl, rfl, ⟨hkq, hk0⟩, HI⟩ := hrel
    have HK0 : Hid (k = 0) := hk0
    clear hk0
    rcases Nat.eq_zero_or_pos q with hq0 | hq0
    · have h1 := HRM.out.1
      have h2 := HM.out
      have h3 := HK0.out
      omega
    · have hqz : (0 : Int) < (q : Int) := by omega
      have hk9 : k + q ≤ 998 := by omega
      have HPL : Hid _ := logm_place wr gl c' (Ext w wr S) s' a G' base recs (recs ++ (ps.take k).map Part.l) (n + k) (M + k) HI.out.log (by have := HN.out; have := HM.out; omega) (by have := HMM.out; have := HM.out; omega) (by rw [List.length_append, List.length_map, List.length_take]; have := HLEN.out; omega)
      go_wp2_with fail
      refine Calls.mono HPL.out ?_
      rintro e w1 ⟨⟨lim, c1, rfl, hlim1, hlim2, hp1, hcd, hcp, hcr⟩, ht1⟩
      have HP : Hid (PlM w1 gl c1 (Ext w wr S) s' a G' base recs (recs ++ (ps.take k).map Part.l) (n + k) (M + k)) := hp1
      have HT1 : Hid (Turn wr w1 (Ext w wr S)) := ht1
      have HCD : Hid (c1.d = c'.d ∧ c1.part = c'.part ∧ c1.recs = c'.recs) := ⟨hcd, hcp, hcr⟩
      clear hp1 ht1 hcd hcp hcr HPL
      go_wp2_with fail
      obtain ⟨nn, hnn⟩ : ∃ nn : Nat, nn = min lim q := ⟨_, rfl⟩
      have hmn : min (lim : Int) (q : Int) = (nn : Int) := by omega
      rw [hmn]
      obtain ⟨b, o, hpb, -⟩ := HI.out.row wr HI.out.turn (by rw [List.length_drop]; have := HM.out; omega)
      subst hpb
      have hcq : q ≤ cap' := by have := HI.out.cap; have := HM.out; omega
      have hcm := HI.out.capm
      unfold maxLen at hcm
      obtain ⟨r, hr⟩ : ∃ r, q = nn + r := ⟨q - nn, by omega⟩
      obtain ⟨z, hz⟩ : ∃ z, cap' = nn + z := ⟨cap' - nn, by omega⟩
      subst hr hz
      have hn1 : 1 ≤ nn := by omega
      have hn3 : nn ≤ 1000 := by omega
      have hrz : r ≤ z := by omega
      clear hmn hnn hlim1 hlim2 hcq
      obtain ⟨Sl, Sd, dl, hL, hD, hSl, hSd, hne, hun, hdl, hdm⟩ := HP.out.sets
      have HL : Hid (LMem w1 gl c1 Sl base recs dl) := hL
      have HL1 : Hid (LgAt w1 gl c1) := hL.at_
      have HD : Hid (Disk w1 c1.d Sd s') := hD
      have HSL : Hid (∀ b, Sl b → Ext w wr S b) := hSl
      have HSD : Hid (∀ b, Sd b → Ext w wr S b) := hSd
      have HNE : Hid (∀ b, Sl b → ¬ Sd b) := hne
      have HUN : Hid (∀ x ∈ C.flat G', x.safe = false → x.file ∈ dl) := hun
      have HDL : Hid (∀ f ∈ dl, s'.is f = true) := hdl
      have HDM : Hid (dl.length ≤ M + k) := hdm
      obtain ⟨rs, hrs⟩ : ∃ rs, rs = ((ps.drop k).take nn).map Part.l := ⟨_, rfl⟩
      have HRS : Hid (rs = ((ps.drop k).take nn).map Part.l) := hrs
      have HRL : Hid (((ps.drop k).take nn).length = nn) := by show _ = _; rw [List.length_take, List.length_drop]; have := HM.out; omega
      have HRN : Hid (rs.length = nn) := by show _ = _; rw [hrs, List.length_map]; exact HRL.out
      have HRR : Hid (∀ r ∈ rs, r.length ≤ 570) := fun r hr' => by
        rw [hrs] at hr'
        obtain ⟨x, hx, rfl⟩ := List.mem_map.1 hr'
        exact HR.out x (List.mem_of_mem_drop (List.mem_of_mem_take hx))
      obtain ⟨L, hLL⟩ : ∃ L, L = C.ents a ((recs ++ (ps.take k).map Part.l).length + 1) rs := ⟨_, rfl⟩
      have HLL : Hid (L = C.ents a ((recs ++ (ps.take k).map Part.l).length + 1) rs) := hLL
      have HDN : Hid ((recs ++ (ps.take k).map Part.l).length = ln + k) := by show _ = _; rw [List.length_append, List.length_map, List.length_take]; have := HM.out; have := HLN.out; omega
      have HL6 : Hid (L.length ≤ 600 * nn) := by show _ ≤ _; rw [hLL]; have := C.ents_six a ((recs ++ (ps.take k).map Part.l).length + 1) rs HRR.out; rw [HRN.out] at this; exact this
      have htc : c1.tc ≤ 200000 := by have := HP.out.tc; have h2 := HDN.out; omega
      clear hL hD hSl hSd hne hun hdl hdm hrs hLL
      have d0 : ∀ t : HW (fun v => LgAt v gl c1), t.v.cell? ⟨gl, 0, none⟩ = some (.pointer (some ⟨c1.d, 0, none⟩)) := fun t => (t.h.cell 0).trans rfl
      have d7 : ∀ t : HW (fun v => LgAt v gl c1), t.v.cell? ⟨gl, 7, none⟩ = some (.int .i64 (c1.tf : Nat)) := fun t => (t.h.cell 7).trans rfl
      have hne : Nonempty (HW (fun v => LgAt v gl c1)) := ⟨⟨w1, HL1.out⟩⟩
      have hC : ∃ t : HW (fun v => LgAt v gl c1), w1.drew = t.v := ⟨⟨w1.drew, HL1.out⟩, rfl⟩
      refine wp_region_held_drew (S := fun w' => ∃ t : HW (fun v => LgAt v gl c1), w' = t.v) (by kernel_rfl) hC (fun _ => ?_)
      have HT1d : Hid (Turn w w1.drew S) := (HI.out.turn.ext HT1.out).drew
      have HB1d : Hid (Below w1.heap.size w1 w1.drew) := (Below.refl _ _).drew
      have HL1d : Hid (LgAt w1.drew gl c1) := HL1.out
      generalize hW0 : w1.drew = W0 at *
      clear hW0
      refine takeList (i := 0) rfl (by kernel_rfl) (by kernel_rfl) (by kernel_rfl) (fun _ _ _ _ h => h) rfl rfl hC (fun K hK => ?_)
      go_big_quiet_op
      refine hK _ ?_
      clear hK K
      refine takeNil (i := 1) rfl rfl rfl (by kernel_rfl) (by kernel_rfl) (by kernel_rfl) (fun _ _ _ _ h => h) rfl hC ?_
      go_simp
      refine takeList (i := 2) rfl (by kernel_rfl) (by kernel_rfl) (by kernel_rfl) (fun _ _ _ _ h => h) rfl rfl hC (fun K hK => ?_)
      go_big_quiet_op
      refine hK _ ?_
      clear hK K
      refine takeList (i := 3) rfl (by kernel_rfl) (by kernel_rfl) (by kernel_rfl) (fun _ _ _ _ h => h) rfl rfl hC (fun K hK => ?_)
      go_big_quiet_op
      refine hK _ ?_
      clear hK K
      refine takeList (i := 4) rfl (by kernel_rfl) (by kernel_rfl) (by kernel_rfl) (fun _ _ _ _ h => h) rfl rfl hC (fun K hK => ?_)
      go_big_quiet_op
      refine hK _ ?_
      clear hK K
      refine takeNil (i := 5) rfl rfl rfl (by kernel_rfl) (by kernel_rfl) (by kernel_rfl) (fun _ _ _ _ h => h) rfl hC ?_
      go_simp
      refine takeList (i := 6) rfl (by kernel_rfl) (by kernel_rfl) (by kernel_rfl) (fun _ _ _ _ h => h) rfl rfl hC (fun K hK => ?_)
      go_big_quiet_op
      refine hK _ ?_
      clear hK K
      refine takeList (i := 7) rfl (by kernel_rfl) (by kernel_rfl) (by kernel_rfl) (fun _ _ _ _ h => h) rfl rfl hC (fun K hK => ?_)
      go_big_quiet_op
      refine hK _ ?_
      clear hK K
      refine takeList (i := 8) rfl (by kernel_rfl) (by kernel_rfl) (by kernel_rfl) (fun _ _ _ _ h => h) rfl rfl hC (fun K hK => ?_)
      go_big_quiet_op
      refine hK _ ?_
      clear hK K
      refine takeList (i := 9) rfl (by kernel_rfl) (by kernel_rfl) (by kernel_rfl) (fun _ _ _ _ h => h) rfl rfl hC (fun K hK => ?_)
      go_big_quiet_op
      refine hK _ ?_
      clear hK K
      refine takeList (i := 10) rfl (by kernel_rfl) (by kernel_rfl) (by kernel_rfl) (fun _ _ _ _ h => h) rfl rfl hC (fun K hK => ?_)
      go_big_quiet_op
      refine hK _ ?_
      clear hK K
      refine takeList (i := 11) rfl (by kernel_rfl) (by kernel_rfl) (by kernel_rfl) (fun _ _ _ _ h => h) rfl rfl hC (fun K hK => ?_)
      go_big_quiet_op
      refine hK _ ?_
      clear hK K
      refine takeList (i := 12) rfl (by kernel_rfl) (by kernel_rfl) (by kernel_rfl) (fun _ _ _ _ h => h) rfl rfl hC (fun K hK => ?_)
      go_big_quiet_op
      refine hK _ ?_
      clear hK K
      refine takeVal (i := 13) (.slice (some ⟨b, o, none⟩) nn (nn + z)) rfl (by kernel_rfl) (by kernel_rfl) (by kernel_rfl) (fun _ _ _ _ h => h) rfl hC (fun w' _ => by go_simp; try (intro h; omega)) ?_
      go_simp
      have HEN : Hid (Calls Tryz.prog 56 #[.pointer (some ⟨gl, 0, none⟩), .int .i64 ((ln : Int) + 1 + (k : Int)), .slice (some ⟨b, o, none⟩) nn (nn + z)] W0 fun e w' => (∃ v, e = .returned v ∧ Own w' W0.heap.size v L) ∧ Below W0.heap.size W0 w') := by
        have h1 := entries_any W0 gl c1 (ln + 1 + k) (some ⟨b, o, none⟩) ((ps.drop k).take nn) (nn + z) (HT.out W0 HT1d.out) HL1d.out ((HI.out.row W0 HT1d.out).take nn) (fun x hx => (HO.out W0 HT1d.out).2 x (List.mem_of_mem_drop (List.mem_of_mem_take hx))) (by rw [HP.out.age]; exact HP.out.log.age) (by rw [HRL.out]; omega) (fun x hx => Nat.le_trans (HR.out x (List.mem_of_mem_drop (List.mem_of_mem_take hx))) (by omega)) (by rw [HRL.out]; omega)
        rw [HRL.out, HP.out.age, ← HRS.out, show ln + 1 + k = (recs ++ (ps.take k).map Part.l).length + 1 from by have := HDN.out; omega, ← HLL.out] at h1
        rw [HDN.out] at h1
        have e9 : (((ln + k + 1 : Nat)) : Int) = (ln : Int) + 1 + (k : Int) := by omega
        rw [e9] at h1
        exact h1
      refine callList (i := 14) rfl (by kernel_rfl) rfl (fun K hK => ?_)
      go_simp
      refine Calls.mono (HEN.out) ?_
      rintro e w2 ⟨⟨v2, rfl, ho2⟩, hb2⟩
      have HB2 : Hid (Below w1.heap.size w1 w2) := bt HB1d.out hb2
      have HL2 : Hid (LgAt w2 gl c1) := HL1d.out.below hb2
      obtain ⟨p2, c2, rfl, hpk⟩ := Own.part ho2
      have HPK : Hid (Part.ok w2 ⟨p2, L, c2⟩) := hpk
      clear hpk ho2 hb2 HEN
      refine hK.out _ _ ⟨⟨_, HL2.out⟩, rfl⟩ ?_
      try go_simp
      clear hK K hC
      have hC : ∃ t : HW (fun v => LgAt v gl c1), w2 = t.v := ⟨⟨_, HL2.out⟩, rfl⟩
      have HE6 : Hid (appE s' c1.tf L = 6) := by
        show _ = _
        have hr0 : refE s' (c1.tf : Nat) = 0 := by unfold refE; rw [if_neg (by rw [HP.out.off]; decide), if_neg (by have := HP.out.tf; omega)]
        have hmm := HM.out
        have hk0 := HK0.out
        have hs := HI.out.zero hk0
        have e1 : L = C.ents a (recs.length + 1) (ps.map Part.l) := by
          rw [HLL.out, HRS.out, hk0]
          have e2 : ((ps.drop 0).take nn) = ps := by rw [List.drop_zero]; exact List.take_of_length_le (by have := HRM.out.1; omega)
          rw [e2]
          simp
        have h4 := HRM.out.2
        unfold appE
        rw [if_pos hr0, if_pos (by rw [e1, hs]; exact h4)]
      have HAP : Hid (Calls Tryz.prog 39 #[.pointer (some ⟨c1.d, 0, none⟩), .int .i64 (c1.tf : Nat), .slice p2 L.length c2] w2 fun e w' => e = .returned (.int .i64 6) ∧ ∃ n, w' = w2.drewN n) := by
        have h1 := append_bad w2 c1.d Sd s' c1.tf p2 L c2 (HD.out.below HB2.out) (by have := HL6.out; omega) (by rw [HE6.out]; decide)
        rw [HE6.out] at h1
        exact h1
      refine callList (i := 15) rfl (by kernel_rfl) rfl (fun K hK => ?_)
      go_simp
      refine Calls.mono (HAP.out) ?_
      rintro e w3 ⟨rfl, nd, hw3⟩
      have HB3 : Hid (Below w1.heap.size w1 w3) := by rw [hw3]; exact bt HB2.out ⟨rfl, rfl, rfl, Nat.le_refl _, fun _ _ => rfl⟩
      have HL3 : Hid (LgAt w3 gl c1) := HL1.out.below HB3.out
      clear hw3 HAP
      refine hK.out _ _ ⟨⟨_, HL3.out⟩, rfl⟩ ?_
      try go_simp
      clear hK K hC
      have hC : ∃ t : HW (fun v => LgAt v gl c1), w3 = t.v := ⟨⟨_, HL3.out⟩, rfl⟩
      refine takeList (i := 16) rfl (by kernel_rfl) (by kernel_rfl) (by kernel_rfl) (fun _ _ _ _ h => h) rfl rfl hC (fun K hK => ?_)
      go_big_quiet_op
      refine hK _ ?_
      clear hK K
      refine wpAnyH_done (by kernel_rfl) ?_ _
      clear d0 d7 hne hC
      go_wp2
      go_ret
      have htt : Turn w w3 S := HI.out.turn.ext (HT1.out.trans (Turn.of_below (S := Ext w wr S) HB3.out) fun x hx => Or.inl hx)
      have hp3 := (HP.out.turn (T := fun _ => False) (Turn.of_below HB3.out) fun _ _ h => h).super (T := Ext w w3 S) (fun b hb => by
        have := HI.out.turn.size
        have h2 := HP.out.lt b hb
        have := HB3.out.size
        rcases hb with hb | hb
        · exact Or.inl hb
        · exact Or.inr ⟨hb.1, by omega⟩) (fun b hb => by
        rcases hb with hb | hb
        · exact Nat.lt_of_lt_of_le (HP.out.lt b (Or.inl hb)) HB3.out.size
        · exact hb.2)
      have hk0 := HK0.out
      subst hk0
      refine ⟨rfl, ⟨c1, s', G', ?_, HCD.out.1.trans HI.out.d, HI.out.lives, HI.out.room⟩, htt⟩
      simpa using hp3
end Go.Proofs.YtnhplbdbgiimkaaGreatDoor
