import Derived.Test.YtbgmjjplddddnaaGreatDoorRiQ
namespace Go.Lift
open Go.RowKit
theorem AY {C:List Nat} {i:Nat}:C.any (Nat.beq i)=true↔i∈C:=by
 rw [List.any_eq_true]
 constructor
 ·rintro ⟨x,h1,h2⟩
  have:=Nat.eq_of_beq_eq_true h2
  subst this
  exact h1
 ·intro h
  exact ⟨i,h,by simp⟩
structure Ag (S C:List Nat) (st st':St):Prop where
 s:∀ i∈S,lk i st.s=lk i st'.s
 l:∀ i∈C,lk i st.l=lk i st'.l
 b:st.b=st'.b
 n:∀ i∈S,∀ rv,lk i st.s=some rv->Ef C rv=true
 c:∀ i∈C,∀ ty con,lk i st.l=some (.var ty con)->Ef C con=true
 y:∀ i∈C,∀ con q,lk i st.l=some (.lp con q)->Ef C con=true
section
variable {α:Type} {S C:List Nat} {st st':St} {E:Aj}
theorem BK (h:Ag S C st st') (ty:Option Ty) (x:Operand) (hx:∀ i,x=.tmp i->i∈S):Ad ty x st.s=Ad ty x st'.s:=by
 unfold Ad
 cases x with
 | tmp i=>simp only [h.s i (hx i rfl)]
 | _=>rfl
theorem DV (h:Ag S C st st') (ty:Option Ty) (x:Operand) (hx:∀ i,x=.tmp i->i∈S):Ef C (Ad ty x st.s)=true:=by
 cases x with
 | tmp i=>
  simp only [Ad]
  cases hl:lk i st.s with
  | none=>rfl
  | some rv=>exact h.n i (hx i rfl) rv hl
 | const v=>
  simp only [Ad]
  split
  ·cases EF v <;> rfl
  ·split <;> rfl
  ·rfl
 | func f=>rfl
 | global g=>simp only [Ad];split <;> rfl
theorem RU {k k':Ty->RV->Option α} (hk:∀ t rv,Ef C rv=true->k t rv=k' t rv):∀ (t:Ty) (rv:RV) (p:List Step),Ef C rv=true->Br k t rv p=Br k' t rv p:=by
 intro t rv p
 fun_induction Br k t rv p with
 | case1 t rv=>intro h;simpa only [Br] using hk t rv h
 | case2 a b x y p ih=>
  intro h
  simp only [Ef,Bool.and_eq_true] at h
  simpa only [Br] using ih h.1
 | case3 a b x y p n ih=>
  intro h
  simp only [Ef,Bool.and_eq_true] at h
  simpa only [Br] using ih h.2
 | case4 t v s p=>
  intro _
  simp only [Br]
  congr 1
  funext u
  exact hk _ _ rfl
 | case5 t rv p h1 h2 h3 h4=>
  intro _
  unfold Br
  split
  ·exact (h1 rfl).elim
  ·exact (h3 _ _ _ _ _ rfl rfl rfl).elim
  ·exact (h4 _ _ _ _ _ _ rfl rfl rfl).elim
  ·exact (h2 _ _ _ rfl rfl).elim
  ·rfl
theorem L6 {pk Vy:RV->(TV->Option α)->Option α} (hpk:∀ rv k,Ef C rv=true->pk rv k=Vy rv k):∀ (rv:RV) (t:Ty) (k:t.den->Option α),Ef C rv=true->Bd pk rv t k=Bd Vy rv t k:=by
 intro rv
 induction rv with
 | pair x y PN ihy=>
  intro t k h
  simp only [Ef,Bool.and_eq_true] at h
  cases t with
  | pair a b=>
   simp only [Bd]
   rw [PN a _ h.1]
   congr 1
   funext z
   exact ihy b _ h.2
  | _=>rfl
 | val v=>intro t k h;rfl
 | unit=>intro t k h;rfl
 | any=>intro t k h;rfl
 | _=>intro t k h;exact hpk _ _ h
theorem Dj (h:Ag S C st st'):∀ (n:Nat) (rv:RV) (k:TV->Option α),Ef C rv=true->Ae st.l n rv k=Ae st'.l n rv k
 | 0,_,_,_=>rfl
 | n+1,rv,k,hr=>by
  have ih:∀ rv (k:TV->Option α),Ef C rv=true->Ae st.l n rv k=Ae st'.l n rv k:=fun rv k hr=>Dj h n rv k hr
  cases rv with
  | row id=>simp only [Ae,h.l id (AY.1 hr)]
  | sub id lo hi=>simp only [Ae,h.l id (AY.1 hr)]
  | loc id p=>
   simp only [Ae]
   rw [← h.l id (AY.1 hr)]
   cases hl:lk id st.l with
   | none=>rfl
   | some ob=>
    cases ob with
    | var ty con=>exact RU (fun t rv Tq=>L6 ih rv t _ Tq) ty con p (h.c id (AY.1 hr) ty con hl)
    | row t xs=>rfl
    | mp kt vt es=>rfl
    | lp c q=>rfl
  | agg t r=>exact L6 ih r t _ hr
  | _=>rfl
theorem Qf (h:Ag S C st st'):∀ (is:List Nat) (k:List (Nat×AV)->Option α),(∀ i∈is,i∈S)->Tx st.l st.s is k=Tx st'.l st'.s is k
 | [],_,_=>rfl
 | i::r,k,hi=>by
  simp only [Tx]
  rw [← h.s i (hi i (by simp))]
  cases hl:lk i st.s with
  | none=>rfl
  | some rv=>
   simp only
   rw [Dj h 6 rv _ (h.n i (hi i (by simp)) rv hl)]
   congr 1
   funext v
   exact Qf h r _ fun j hj=>hi j (by simp [hj])
theorem Jz (h:Ag S C st st') (is:List Nat) (hi:∀ i∈is,i∈S):Co st.s is=Co st'.s is:=by
 unfold Co
 induction is with
 | nil=>rfl
 | cons i r ih=>
  simp only [List.all_cons]
  rw [h.s i (hi i (by simp)),ih fun j hj=>hi j (by simp [hj])]
theorem TQ (h:Ag S C st st') {o:Oper} (hS:∀ i∈slotsOf o,i∈S) (k:RV->Option Ob->Option α):Ec E o st k=Ec E o st' k:=by
 unfold Ec
 rw [Qf h _ _ hS,Jz h _ hS]
theorem Ox (h:Ag S C st st'):∀ (t:Ty) (i:Nat) (ps:List (Nat×Operand)),(∀ i,Operand.tmp i∈ps.map (·.2)->i∈S)->BO st.s t i ps=BO st'.s t i ps:=by
 intro t
 induction t with
 | pair a b iha ihb=>
  intro i ps hp
  cases ps with
  | nil=>simp only [BO];rw [ihb (i+1) [] (by simp)]
  | cons p r=>
   obtain ⟨j,x⟩:=p
   unfold BO
   rw [BK h (some a) x (fun i hi=>hp i (by simp [hi])),ihb (i+1) r (fun i hi=>hp i (by simp at hi ⊢;exact .inr hi)),ihb (i+1) ((j,x)::r) hp]
 | _=>intro i ps hp;cases ps <;> rfl
theorem Kj (h:Ag S C st st') {t:Ty}:∀ (i:Nat) (ps:List (Nat×Operand)),(∀ i,Operand.tmp i∈ps.map (·.2)->i∈S)->Ew t st.s i ps=Ew t st'.s i ps
 | _,[],_=>rfl
 | i,(j,x)::r,hp=>by
  unfold Ew
  rw [BK h (some t) x (fun i hi=>hp i (by simp [hi])),Kj h (i+1) r fun i hi=>hp i (by simp at hi ⊢;exact .inr hi)]
theorem LV (h:Ag S C st st') {tab:List (TypeId×Ty)}:∀ (xs:List Operand) (ts:List TypeId) (k:List TV->Option α),(∀ i,Operand.tmp i∈xs->i∈S)->FD tab st.l st.s xs ts k=FD tab st'.l st'.s xs ts k
 | [],[],_,_=>rfl
 | [],_::_,_,_=>rfl
 | _::_,[],_,_=>rfl
 | x::xs,t::ts,k,hp=>by
  simp only [FD]
  have hx:∀ i,x=.tmp i->i∈S:=fun i hi=>hp i (by simp [hi])
  rw [← BK h (lk t tab) x hx,Dj h 6 _ _ (DV h (lk t tab) x hx)]
  congr 1
  funext v
  exact LV h xs ts _ fun i hi=>hp i (by simp [hi])
theorem JC (h:Ag S C st st') {tab:List (TypeId×Ty)}:∀ (xs:List Operand) (ts:List TypeId),(∀ i,Operand.tmp i∈xs->i∈S)->allArgs tab st.s xs ts=allArgs tab st'.s xs ts
 | [],[],_=>rfl
 | [],_::_,_=>rfl
 | _::_,[],_=>rfl
 | x::xs,t::ts,hp=>by
  simp only [allArgs]
  rw [BK h (lk t tab) x (fun i hi=>hp i (by simp [hi])),JC h xs ts fun i hi=>hp i (by simp [hi])]
theorem Bo {o:Oper} {i:Nat} (h:Operand.tmp i∈o.op.operands):i∈slotsOf o:=by
 unfold slotsOf
 rw [List.mem_filterMap]
 exact ⟨.tmp i,by simpa using h,rfl⟩
theorem QV (h:Ag S C st st') {o:Oper} (hS:∀ i∈slotsOf o,i∈S) (id:Nat) (k:RV->Option Ob->Option α):BA E o st id k=BA E o st' id k:=by
 have sh:=TQ (E:=E) h hS k
 have hs:∀ i,Operand.tmp i∈o.op.operands->i∈S:=fun i hi=>hS i (Bo hi)
 have UJ:=Jz h _ hS
 obtain ⟨dst,op,type,pos,af,guard⟩:=o
 have e1:∀ (ty:Option Ty) (x:Operand),x∈op.operands->Ad ty x st.s=Ad ty x st'.s:=fun ty x hx=>BK h ty x fun i hi=>hs i (by rw [← hi];exact hx)
 have e2:∀ (ty:Option Ty) (x:Operand),x∈op.operands->Ef C (Ad ty x st'.s)=true:=fun ty x hx=>e1 ty x hx ▸ DV h ty x fun i hi=>hs i (by rw [← hi];exact hx)
 have nl:∀ (k:RV->Option α) (alt:Option α),Kc E { dst:=dst,op:=op,type:=type,pos:=pos,after:=af,guard:=guard } st k alt=Kc E { dst:=dst,op:=op,type:=type,pos:=pos,after:=af,guard:=guard } st' k alt:=by
  intro k alt
  cases op with
  | binOp op t x y u=>
   cases y with
   | const v=>simp only [Kc];rw [e1 none x (by simp [Op.operands])]
   | _=>rfl
  | slice T x lo hi mx=>
   cases lo with
   | some _=>cases mx <;> rfl
   | none=>
    cases hi with
    | none=>cases mx <;> rfl
    | some y=>
     cases mx with
     | some _=>rfl
     | none=>simp only [Kc];rw [e1 none x (by simp [Op.operands]),e1 (some (.int .i64)) y (by simp [Op.operands])]
  | call c=>
   obtain ⟨callee,args,ts⟩:=c
   cases callee with
   | builtin b=>
    cases b with
    | cap=>
     simp only [Kc]
     split
     ·rename_i x t hargs hts
      rw [e1 none x (by simp [Op.operands,Call.operands];rw [← Array.mem_toList_iff,hargs];simp)]
     ·rfl
    | _=>rfl
   | _=>rfl
  | _=>rfl
 cases op with
 | move x=>simp only [BA];rw [e1 _ x (by simp [Op.operands])]
 | assign x=>simp only [BA];rw [e1 _ x (by simp [Op.operands])]
 | pick c x y=>simp only [BA];rw [e1 _ x (by simp [Op.operands]),e1 _ y (by simp [Op.operands]),e1 _ c (by simp [Op.operands])]
 | alloc t=>rfl
 | box t x=>simp only [BA];simp only [e1 _ x (by simp [Op.operands])]
 | load T x=>
  simp only [BA,sh]
  rw [e1 _ x (by simp [Op.operands])]
  have hin:=e2 (lk type E.tab) x (by simp [Op.operands])
  split
  ·rename_i i p heq
   rw [heq] at hin
   rw [← h.l i (AY.1 hin)]
  ·rfl
 | nilCheck x=>simp only [BA,sh];rw [e1 _ x (by simp [Op.operands])]
 | fieldAddr T x f=>
  simp only [BA,sh]
  rw [e1 _ x (by simp [Op.operands])]
  have hin:=e2 (lk type E.tab) x (by simp [Op.operands])
  split
  ·rename_i i p heq
   rw [heq] at hin
   rw [← h.l i (AY.1 hin)]
  ·rfl
 | field T x f=>simp only [BA,sh];rw [e1 _ x (by simp [Op.operands])]
 | indexAddr T x i=>
  simp only [BA,sh]
  rw [e1 _ x (by simp [Op.operands]),e1 _ i (by simp [Op.operands])]
  have hin:=e2 (lk type E.tab) x (by simp [Op.operands])
  split
  ·rename_i id p heq
   rw [heq] at hin
   rw [← h.l id (AY.1 hin)]
  ·rename_i id heq
   rw [heq] at hin
   rw [← h.l id (AY.1 hin)]
  ·rename_i id lo hi heq
   rw [heq] at hin
   rw [← h.l id (AY.1 hin)]
  ·rfl
 | slice T x lo hi mx=>
  cases mx with
  | some z=>
   cases hi with
   | none=>simp only [BA,sh,nl]
   | some y=>
    have hlo:(lo.map fun y=>Ad (some (.int .i64)) y st.s)=(lo.map fun y=>Ad (some (.int .i64)) y st'.s):=by
     cases lo with
     | none=>rfl
     | some y=>simp only [Option.map_some];rw [e1 _ y (by simp [Op.operands])]
    have hhi:((some y).map fun y=>Ad (some (.int .i64)) y st.s)=((some y).map fun y=>Ad (some (.int .i64)) y st'.s):=by
     simp only [Option.map_some];rw [e1 _ y (by simp [Op.operands])]
    have hz:=e1 (some (.int .i64)) z (by simp [Op.operands])
    simp only [BA,sh,hlo,hhi,hz]
    rw [e1 _ x (by simp [Op.operands])]
    have hin:=e2 (lk type E.tab) x (by simp [Op.operands])
    split
    ·rename_i id heq
     rw [heq] at hin
     rw [← h.l id (AY.1 hin)]
    ·rename_i id a b heq
     rw [heq] at hin
     rw [← h.l id (AY.1 hin)]
    ·rfl
  | none=>
   have hlo:(lo.map fun y=>Ad (some (.int .i64)) y st.s)=(lo.map fun y=>Ad (some (.int .i64)) y st'.s):=by
    cases lo with
    | none=>rfl
    | some y=>simp only [Option.map_some];rw [e1 _ y (by simp [Op.operands])]
   have hhi:(hi.map fun y=>Ad (some (.int .i64)) y st.s)=(hi.map fun y=>Ad (some (.int .i64)) y st'.s):=by
    cases hi with
    | none=>rfl
    | some y=>simp only [Option.map_some];rw [e1 _ y (by simp [Op.operands])]
   simp only [BA,sh,hlo,hhi,nl]
   rw [e1 _ x (by simp [Op.operands])]
   have hin:=e2 (lk type E.tab) x (by simp [Op.operands])
   split
   ·rename_i id heq
    rw [heq] at hin
    rw [← h.l id (AY.1 hin)]
   ·rename_i id a b heq
    rw [heq] at hin
    rw [← h.l id (AY.1 hin)]
   ·rfl
 | extract x i=>simp only [BA];rw [e1 _ x (by simp [Op.operands])]
 | makeFunc f first caps=>
  cases f with
  | func g=>
   simp only [BA]
   have:(caps.toList.map fun x=>Ad none x st.s)=(caps.toList.map fun x=>Ad none x st'.s):=by
    refine List.map_congr_left fun x hx=>e1 none x ?_
    simp only [Op.operands]
    simp
    exact Or.inr (by simpa using hx)
   rw [this]
  | _=>simp only [BA,sh,nl]
 | build t parts=>
  have hp:∀ i,Operand.tmp i∈(Ed parts.toList).map (·.2)->i∈S:=fun i hi=>hs i (by
   obtain ⟨p,h1,h2⟩:=List.mem_map.1 hi
   have:Operand.tmp i∈parts.toList.map (·.2):=List.mem_map.2 ⟨p,GD.1 h1,h2⟩
   simpa [Op.operands] using this)
  simp only [BA,sh,UJ]
  congr 1
  funext ty
  congr 1
  cases ty <;> simp only [Ox h _ _ _ hp]
 | buildSlice t n parts=>
  have hp:∀ i,Operand.tmp i∈parts.toList.map (·.2)->i∈S:=fun i hi=>hs i (by simpa [Op.operands] using hi)
  simp only [BA]
  congr 1
  funext ty
  cases ty <;> simp only [Kj h _ _ hp]
 | convert src dst x=>simp only [BA,sh];simp only [e1 _ x (by simp [Op.operands])]
 | makeMap t hint=>cases hint <;> simp only [BA,sh,nl]
 | lookup t m x c=>
  simp only [BA,QN]
  have hin:=e2 none m (by simp [Op.operands])
  rw [e1 none m (by simp [Op.operands])]
  split
  ·rename_i i heq
   rw [heq] at hin
   rw [← h.l i (AY.1 hin)]
   split
   ·rename_i kt vt es _
    rw [← e1 (some kt) x (by simp [Op.operands]),Dj h 6 _ _ (DV h (some kt) x fun i hi=>hs i (by rw [← hi];simp [Op.operands]))]
   ·rfl
  ·rfl
 | makeSlice t l c=>simp only [BA];simp only [e1 _ l (by simp [Op.operands]),e1 _ c (by simp [Op.operands])]
 | call c=>
  obtain ⟨callee,args,ts⟩:=c
  cases callee with
  | value f=>
   have hp:∀ i,Operand.tmp i∈args.toList->i∈S:=fun i hi=>hs i (by simp [Op.operands,Call.operands];exact .inr (by simpa using hi))
   simp only [BA]
   rw [e1 none f (by simp [Op.operands,Call.operands])]
   split
   ·congr 1
    funext fn
    unfold LZ
    rw [JC h _ _ hp,LV h _ _ _ hp]
   ·rfl
  | invoke r m=>simp only [BA,sh,nl]
  | builtin b=>simp only [BA,sh,nl]
 | _=>simp only [BA,sh,nl]
theorem Nh (h:Ag S C st st') {e:Ty} {rv:RV} (hr:Ef C rv=true):LA st.l e rv=LA st'.l e rv:=by
 cases rv with
 | row id=>simp only [LA,h.l id (AY.1 hr)]
 | sub id lo hi=>simp only [LA,h.l id (AY.1 hr)]
 | _=>rfl
theorem TY (h:Ag S C st st') {tab:List (TypeId×Ty)} {u:TypeId} {e:Ty} {rv:RV} (hr:Ef C rv=true):OY tab u st.l e rv=OY tab u st'.l e rv:=by
 cases rv with
 | row id=>simp only [OY,h.l id (AY.1 hr)]
 | sub id lo hi=>simp only [OY,h.l id (AY.1 hr)]
 | val v=>obtain ⟨t,y⟩:=v;cases t <;> rfl
 | _=>rfl
theorem Rx (h:Ag S C st st') {args:Array Operand} {ts:Array TypeId} (hp:∀ i,Operand.tmp i∈args.toList->i∈S) (k:(e:Ty)->List e.den->Option Nat->Option α):MP E args ts st k=MP E args ts st' k:=by
 unfold MP
 split
 ·rename_i sx x t u hargs hts
  have e1:∀ ty,Ad ty sx st.s=Ad ty sx st'.s:=fun ty=>BK h ty sx fun i hi=>hp i (by rw [hargs,hi];simp)
  have e2:∀ ty,Ad ty x st.s=Ad ty x st'.s:=fun ty=>BK h ty x fun i hi=>hp i (by rw [hargs,hi];simp)
  split
  ·rename_i e _
   rw [Nh h (DV h (some (.slice e)) sx fun i hi=>hp i (by rw [hargs,hi];simp)),TY h (DV h (lk u E.tab) x fun i hi=>hp i (by rw [hargs,hi];simp)),e1,e2]
  ·rfl
 ·rfl
theorem Sd (h:Ag S C st st') {t:TypeId} {m x y:Operand} (hm:∀ i,m=.tmp i->i∈S) (hx:∀ i,x=.tmp i->i∈S) (hy:∀ i,y=.tmp i->i∈S) (k:Nat->Ob->Option α):LG E t m x y st k=LG E t m x y st' k:=by
 have hin:=DV h none m hm
 unfold LG
 rw [← BK h none m hm]
 split
 ·rename_i i heq
  rw [heq] at hin
  rw [← h.l i (AY.1 hin)]
  split
  ·rename_i kt vt es _
   rw [← BK h (some kt) x hx,← BK h (some vt) y hy,Dj h 6 _ _ (DV h (some kt) x hx)]
   congr 1
   congr 1
   funext v
   congr 1
   funext z
   exact Dj h 6 _ _ (DV h (some vt) y hy)
  ·rfl
 ·rfl
theorem P6 (h:Ag S C st st') {t:TypeId} {x y:Operand} (hx:∀ i,x=.tmp i->i∈S) (hy:∀ i,y=.tmp i->i∈S) (k:Nat->Ob->Option α):EG E t x y st k=EG E t x y st' k:=by
 have e1:∀ ty,Ad ty x st.s=Ad ty x st'.s:=fun ty=>BK h ty x hx
 have e2:∀ ty,Ad ty y st.s=Ad ty y st'.s:=fun ty=>BK h ty y hy
 have hin:=DV h (lk t E.tab) x hx
 unfold EG
 simp only [e2]
 rw [e1] at hin ⊢
 split
 ·rename_i id p heq
  rw [heq] at hin
  rw [← h.l id (AY.1 hin)]
 ·rfl
theorem Jq:∀ {rv:RV} {acc:List Nat} {i:Nat},Ef C rv=true->i∈Er rv acc->i∈C∨i∈acc:=by
 intro rv
 induction rv with
 | row id=>intro acc i h hi;rcases List.mem_cons.1 hi with rfl | hi;exact .inl (AY.1 h);exact .inr hi
 | sub id _ _=>intro acc i h hi;rcases List.mem_cons.1 hi with rfl | hi;exact .inl (AY.1 h);exact .inr hi
 | loc id _=>intro acc i h hi;rcases List.mem_cons.1 hi with rfl | hi;exact .inl (AY.1 h);exact .inr hi
 | mp id=>intro acc i h hi;rcases List.mem_cons.1 hi with rfl | hi;exact .inl (AY.1 h);exact .inr hi
 | yl id=>intro acc i h hi;rcases List.mem_cons.1 hi with rfl | hi;exact .inl (AY.1 h);exact .inr hi
 | Dn f c ih=>intro acc i h hi;exact ih h hi
 | agg t r ih=>intro acc i h hi;exact ih h hi
 | CW r ih=>intro acc i h hi;exact ih h hi
 | pair a b iha ihb=>
  intro acc i h hi
  simp only [Ef,Bool.and_eq_true] at h
  rcases iha h.1 hi with h1 | h1
  ·exact .inl h1
  ·exact ihb h.2 h1
 | _=>intro acc i _ hi;exact .inr hi
theorem QL:∀ {A9:List RV},(∀ rv∈A9,Ef C rv=true)->∀ i∈Q7 A9,i∈C
 | [],_,i,hi=>by simp [Q7] at hi
 | r::rs,h,i,hi=>by
  rcases Jq (h r (by simp)) hi with h1 | h1
  ·exact h1
  ·exact QL (fun rv hr=>h rv (by simp [hr])) i h1
theorem C9 (h:Ag S C st st'):∀ (n:Nat) (todo seen:List Nat),(∀ i∈todo,i∈C)->reach st.l n todo seen=reach st'.l n todo seen/\∀ i∈reach st.l n todo seen,i∈C∨i∈seen
 | 0,_,seen,_=>⟨rfl,fun i hi=>.inr hi⟩
 | n+1,[],seen,_=>⟨rfl,fun i hi=>.inr hi⟩
 | n+1,id::todo,seen,ht=>by
  have hid:=ht id (by simp)
  have ht':∀ i∈todo,i∈C:=fun i hi=>ht i (by simp [hi])
  have snoc:∀ {i:Nat},i∈C∨i∈seen++[id]->i∈C∨i∈seen:=by
   intro i hi
   rcases hi with hi | hi
   ·exact .inl hi
   ·rcases List.mem_append.1 hi with hi | hi
    ·exact .inr hi
    ·simp at hi;subst hi;exact .inl hid
  simp only [reach]
  rw [← h.l id hid]
  cases seen.any (Nat.beq id) with
  | true=>exact C9 h n todo seen ht'
  | false=>
   simp only [cond_false]
   split
   ·rename_i t con hl
    obtain ⟨h1,h2⟩:=C9 h n (Er con todo) (seen++[id]) fun i hi=>(Jq (h.c id hid t con hl) hi).elim (fun h=>h) (ht' i)
    exact ⟨h1,fun i hi=>snoc (h2 i hi)⟩
   ·obtain ⟨h1,h2⟩:=C9 h n todo (seen++[id]) ht'
    exact ⟨h1,fun i hi=>snoc (h2 i hi)⟩
   ·obtain ⟨h1,h2⟩:=C9 h n todo (seen++[id]) ht'
    exact ⟨h1,fun i hi=>snoc (h2 i hi)⟩
   ·rename_i con q hl
    obtain ⟨h1,h2⟩:=C9 h n (Er con todo) (seen++[id]) fun i hi=>(Jq (h.y id hid con q hl) hi).elim (fun h=>h) (ht' i)
    exact ⟨h1,fun i hi=>snoc (h2 i hi)⟩
   ·exact C9 h n todo seen ht'
theorem OL (h:Ag S C st st') {f:Nat->Option Nat}:∀ (ids:List Nat) (n:Nat),(∀ i∈ids,i∈C)->Dy f st.l ids n=Dy f st'.l ids n
 | [],_,_=>rfl
 | i::r,n,hi=>by
  simp only [Dy]
  rw [← h.l i (hi i (by simp)),OL h r (n+1) fun j hj=>hi j (by simp [hj])]
theorem SY:∀ {r:RV} {cs:List RV},FE r=some cs->Ef C r=true->∀ rv∈cs,Ef C rv=true:=by
 intro r
 induction r with
 | unit=>intro cs h _ rv hr;cases h;cases hr
 | pair a b _ ihb=>
  intro cs h hc rv hr
  simp only [Ef,Bool.and_eq_true] at hc
  simp only [FE] at h
  obtain ⟨r,h1,h⟩:=Option.bind_eq_some_iff.1 h
  cases h
  rcases List.mem_cons.1 hr with rfl | hr
  ·exact hc.1
  ·exact ihb h1 hc.2 rv hr
 | _=>intro cs h;cases h
theorem TH (h:Ag S C st st') {c:ED} {args:Array Operand} {ts:Array TypeId} {caps:RV} (hp:∀ i,Operand.tmp i∈args.toList->i∈S) (hc:Ef C caps=true) (k:Nat->Ob->RV->Option α):Jk E c args ts caps st k=Jk E c args ts caps st' k:=by
 have hargs:((args.toList.zip ts.toList).map fun p=>Ad (lk p.2 E.tab) p.1 st.s)=(args.toList.zip ts.toList).map fun p=>Ad (lk p.2 E.tab) p.1 st'.s:=
  List.map_congr_left fun p hp'=>BK h _ p.1 fun i e=>hp i (by rw [← e];exact (List.of_mem_zip hp').1)
 have hin:∀ rv∈(args.toList.zip ts.toList).map fun p=>Ad (lk p.2 E.tab) p.1 st.s,Ef C rv=true:=by
  intro rv hr
  obtain ⟨p,hp',rfl⟩:=List.mem_map.1 hr
  exact DV h _ p.1 fun i e=>hp i (by rw [← e];exact (List.of_mem_zip hp').1)
 unfold Jk
 rw [← hargs]
 congr 1
 cases hcs:FE caps with
 | none=>rfl
 | some cs=>
  simp only [Option.bind_some]
  have hin2:∀ rv∈((args.toList.zip ts.toList).map fun p=>Ad (lk p.2 E.tab) p.1 st.s)++cs,Ef C rv=true:=by
   intro rv hr
   rcases List.mem_append.1 hr with hr | hr
   ·exact hin rv hr
   ·exact SY hcs hc rv hr
  obtain ⟨h1,h2⟩:=C9 h 200 (Q7 (((args.toList.zip ts.toList).map fun p=>Ad (lk p.2 E.tab) p.1 st.s)++cs)) [] (QL hin2)
  unfold Un
  have h3:EP st'.l (((args.toList.zip ts.toList).map fun p=>Ad (lk p.2 E.tab) p.1 st.s)++cs)=EP st.l (((args.toList.zip ts.toList).map fun p=>Ad (lk p.2 E.tab) p.1 st.s)++cs):=h1.symm
  have h4:∀ i∈EP st.l (((args.toList.zip ts.toList).map fun p=>Ad (lk p.2 E.tab) p.1 st.s)++cs),i∈C:=fun i hi=>(h2 i hi).resolve_right (by simp)
  rw [h3]
  generalize EP st.l (((args.toList.zip ts.toList).map fun p=>Ad (lk p.2 E.tab) p.1 st.s)++cs)=ids at h4
  have h5:Dy (fun id=>Cx id ids 0) st.l ids 0=Dy (fun id=>Cx id ids 0) st'.l ids 0:=OL h ids 0 h4
  simp only [h5]
theorem MB (h:Ag S C st st') {o:Oper} (hS:∀ i∈slotsOf o,i∈S) {γ:Type} {T:List (FuncId×γ)} {yes XK:γ->Array Operand->Array TypeId->RV->Option α} {no YX:Option α} (hn:no=YX)
  (hy:∀ c args ts caps,(∀ i,Operand.tmp i∈args.toList->i∈S)->Ef C caps=true->yes c args ts caps=XK c args ts caps):H7 T o st yes no=H7 T o st' XK YX:=by
 unfold H7
 subst hn
 split
 ·rename_i f args ts hop
  have hf:∀ i,f=.tmp i->i∈S:=fun i hi=>hS i (Bo (by simp [hop,Op.operands,Call.operands,hi]))
  rw [← BK h none f hf]
  have hin:=DV h none f hf
  split
  ·rename_i g caps heq
   rw [heq] at hin
   split
   ·exact hy _ _ _ _ (fun i hi=>hS i (Bo (by simp [hop,Op.operands,Call.operands];simp at hi;exact .inr hi))) hin
   ·rfl
  ·rfl
 ·rfl
theorem L9 {γ:Type} {T:List (FuncId×γ)} {o:Oper} {yes:γ->Array Operand->Array TypeId->RV->Option α} {no:Option α} {r:α} (h:H7 T o st yes no=some r) :
  (∃ f args ts g caps c,o.op=.call { callee:=.value f,args:=args,argTypes:=ts }/\Ad none f st.s=.Dn g caps/\lk g T=some c/\yes c args ts caps=some r)∨no=some r:=by
 unfold H7 at h
 split at h
 ·rename_i f args ts hop
  split at h
  ·rename_i g caps heq
   split at h
   ·rename_i c hc
    exact .inl ⟨f,args,ts,g,caps,c,hop,heq,hc,h⟩
   ·exact .inr h
  ·exact .inr h
 ·exact .inr h
theorem OI {γ:Type} {T:List (FuncId×γ)} {X:Type} {o:Oper} {yes:(β:Type)->(X->Option β)->γ->Array Operand->Array TypeId->RV->Option β} {no:(β:Type)->(X->Option β)->Option β} (hy:∀ c a t r,PC (fun β k=>yes β k c a t r)) (hn:PC no):PC (fun β k=>H7 T o st (yes β k) (no β k)):=by
 unfold H7
 split
 ·split
  ·split
   ·exact hy _ _ _ _
   ·exact hn
  ·exact hn
 ·exact hn
theorem Qx (h:Ag S C st st') {c:K7} {args:Array Operand} {ts:Array TypeId} {caps:RV} (hp:∀ i,Operand.tmp i∈args.toList->i∈S) (k:(e:Ty)->List e.den->Option Nat->Option α):GZ E c args ts caps st k=GZ E c args ts caps st' k:=by
 unfold GZ
 split
 ·rename_i sx xs t us hargs _
  have e1:Ad (lk t E.tab) sx st.s=Ad (lk t E.tab) sx st'.s:=BK h _ sx fun i hi=>hp i (by rw [hargs,hi];simp)
  have e2:((xs.zip us).map fun p=>Ad (lk p.2 E.tab) p.1 st.s)=(xs.zip us).map fun p=>Ad (lk p.2 E.tab) p.1 st'.s:=
   List.map_congr_left fun p hp'=>BK h _ p.1 fun i e=>hp i (by rw [hargs,← e];exact List.mem_cons_of_mem _ (List.of_mem_zip hp').1)
  rw [Nh h (DV h (lk t E.tab) sx fun i hi=>hp i (by rw [hargs,hi];simp)),e1,e2]
 ·rfl
theorem KJ {c:K7} {args:Array Operand} {ts:Array TypeId} {caps:RV}:PC (fun β (k:((e:Ty)×List e.den×Option Nat)->Option β)=>GZ E c args ts caps st fun e z old=>k ⟨e,z,old⟩):=by
 unfold GZ
 split
 ·exact PC.bif (PC.bind (X:=(e:Ty)×List e.den×Option Nat) fun X=>PC.bind fun y=>PC.bind fun z=>PC.ret _) PC.none
 ·exact PC.none
theorem Ki (h:Ag S C st st') {id:Nat} {u:Ty} {xs:List u.den} {t:Ty}:∀ (i:Nat) (ps:List (Nat×Operand)),(∀ i,Operand.tmp i∈ps.map (·.2)->i∈S)->FZ id u xs t st.s i ps=FZ id u xs t st'.s i ps
 | _,[],_=>rfl
 | i,(j,x)::r,hp=>by
  unfold FZ
  rw [BK h (some t) x fun i e=>hp i (by simp [e]),Ki h (i+1) r fun i hi=>hp i (by simp at hi ⊢;exact .inr hi)]
theorem RS (h:Ag S C st st') {o:Oper} (hS:∀ i∈slotsOf o,i∈S):Gc o st=Gc o st':=by
 unfold Gc
 have:∀ l:List Nat,(∀ i∈l,i∈S)->l.foldr (fun i acc=>match lk i st.s with | some rv=>Er rv acc | none=>acc) []=l.foldr (fun i acc=>match lk i st'.s with | some rv=>Er rv acc | none=>acc) []:=by
  intro l
  induction l with
  | nil=>intro _;rfl
  | cons i l ih=>
   intro hl
   simp only [List.foldr_cons]
   rw [ih fun j hj=>hl j (by simp [hj]),h.s i (hl i (by simp))]
 exact this _ hS
theorem Sq (h:Ag S C st st') {o:Oper} (hS:∀ i∈slotsOf o,i∈S):∀ i∈Gc o st,i∈C:=by
 unfold Gc
 have:∀ l:List Nat,(∀ i∈l,i∈S)->∀ i∈l.foldr (fun i acc=>match lk i st.s with | some rv=>Er rv acc | none=>acc) [],i∈C:=by
  intro l
  induction l with
  | nil=>intro _ i hi;simp at hi
  | cons j l ih=>
   intro hl i hi
   simp only [List.foldr_cons] at hi
   cases hs:lk j st.s with
   | none=>rw [hs] at hi;exact ih (fun j hj=>hl j (by simp [hj])) i hi
   | some rv=>
    rw [hs] at hi
    exact (Jq (h.n j (hl j (by simp)) rv hs) hi).elim (fun h=>h) (ih (fun j hj=>hl j (by simp [hj])) i)
 exact this _ hS
theorem Ov (h:Ag S C st st') {t:TypeId} {n:Nat} {parts:List (Nat×Operand)} {id:Nat} (hp:∀ i,Operand.tmp i∈parts.map (·.2)->i∈S) (hid:id∈C) (k:(e:Ty)->List e.den->Option α):El E t n parts id st k=El E t n parts id st' k:=by
 unfold El
 rw [← h.l id hid]
 split
 ·congr 1
  funext ty
  split
  ·rw [Ki h 0 parts hp]
  ·rfl
 ·rfl
end
end Go.Lift
