import Derived.Test.YtlhnlcbcikbokaaGreatDoorIrM0
set_option linter.unusedVariables false
set_option linter.unusedSimpArgs false
set_option linter.unusedSectionVars false
set_option maxRecDepth 100000
namespace Go.Proofs.YtlhnlcbcikbokaaGreatDoor.T
open Go.Lift
abbrev Rn:=Int×Int×Unit
def inc:Int→Int→List Rn→Int→Bool
 | _,_,[],_=>true
 | f,v,r::l,n=>(decide (r.1 < n)&&(decide (f < r.1)&&decide (v≠r.2.1)))&&inc r.1 r.2.1 l n
def fineR:List Rn→Int→Bool
 | [],_=>false
 | r::l,n=>(decide (r.1=0)&&decide (0 < n))&&inc 0 r.2.1 l n
def mkR:Nat→Int→List Int→List Rn
 | _,_,[]=>[]
 | k,p,x::v=>if x=p then mkR (k+1) p v else ((k:Int),x,())::mkR (k+1) x v
theorem inc_cons {f v n:Int} {r:Rn} {l:List Rn}:inc f v (r::l) n=true↔(r.1 < n∧f < r.1∧v≠r.2.1)∧inc r.1 r.2.1 l n=true:=by
 simp only [inc,Bool.and_eq_true,decide_eq_true_eq]
theorem fineR_len {l:List Rn} {n:Nat} (h:fineR l n=true):l.length≤n:=by
 have key:∀ {t:List Rn} {f v:Int},inc f v t n=true→(t.length:Int)+f < n∨t=[]:=by
  intro t
  induction t with
  | nil=>intro f v _;exact .inr rfl
  | cons r t ih=>
   intro f v h
   obtain ⟨⟨h1,h2,_⟩,h4⟩:=inc_cons.1 h
   left
   rcases ih h4 with h5 | rfl
   ·simp only [List.length_cons];omega
   ·simp only [List.length_cons,List.length_nil];omega
 cases l with
 | nil=>simp
 | cons r t=>
  simp only [fineR,Bool.and_eq_true,decide_eq_true_eq] at h
  rcases key h.2 with h5 | rfl
  ·simp only [List.length_cons];omega
  ·simp only [List.length_cons,List.length_nil];omega
theorem t64 {z:Int} (h : -9223372036854775808≤z) (h':z≤9223372036854775807):IntKind.i64.wrap z=z:=wrap_i64 h h'
theorem tbig {n:Nat} (h:n≤1000000):n < big:=by
 have:1000000 < big:=by decide
 omega
theorem tbigm {n:Nat} (h:n≤9223372036854775807):n < big:=by
 have:9223372036854775807 < big:=by decide
 omega
theorem tget {α:Type} {pre t:List α} {a:α} {i:Int} (h:i=(pre.length:Int)):getI (pre++a::t) i=some a:=by
 subst h
 rw [getI_nat]
 simp
theorem tget0 {α:Type} {t:List α} {a:α}:getI (a::t) 0=some a:=tget (pre:=[]) rfl
theorem fine_loop (N:Nat) (n:Int):∀ (t pre:List Rn) (a:Rn) (M:Nat),pre.length+t.length+1≤9223372036854775807→t.length < M→iterV (gref08_Fine_0 N) M (pre++a::t,n,((pre.length+1:Nat):Int))=some (inc a.1 a.2.1 t n)
 | [],pre,a,M+1,hl,hM=>by
  rw [iterV_succ]
  show href08_Fine_0 _ _=_
  unfold href08_Fine_0
  dsimp only
  rw [decide_eq_false (by simp),cond_false]
  rfl
 | b::t,pre,a,M+1,hl,hM=>by
  rw [iterV_succ]
  show href08_Fine_0 _ _=_
  unfold href08_Fine_0
  dsimp only
  simp only [List.length_cons] at hl hM
  have e1:getI (pre++a::b::t) ((pre.length+1:Nat):Int)=some b:=by
   rw [show pre++a::b::t=(pre++[a])++b::t by simp]
   exact tget (by simp)
  have e2:getI (pre++a::b::t) ((pre.length:Nat):Int)=some a:=tget rfl
  have e3:IntKind.i64.wrap (((pre.length+1:Nat):Int) - 1)=((pre.length:Nat):Int):=by rw [t64 (by omega) (by omega)];omega
  have e4:IntKind.i64.wrap (((pre.length+1:Nat):Int)+1)=(((pre++[a]).length+1:Nat):Int):=by rw [t64 (by omega) (by omega)];simp
  rw [decide_eq_true (show ((pre.length+1:Nat):Int) < ((pre++a::b::t).length:Int) by simp;omega),cond_true,decide_eq_true (show ((pre.length+1:Nat):Int) > 0 by omega),cond_true]
  simp only [e1,e2,e3,e4,Option.bind_some]
  have ih:=fine_loop N n t (pre++[a]) b M (by simp;omega) (by omega)
  rw [show (pre++[a])++b::t=pre++a::b::t by simp] at ih
  unfold inc
  by_cases h1:b.1 < n
  ·rw [decide_eq_false (show ¬ b.1≥n by omega),cond_false,decide_eq_true h1,Bool.true_and]
   by_cases h2:a.1 < b.1
   ·rw [decide_eq_false (show ¬ a.1≥b.1 by omega),cond_false,decide_eq_true h2,Bool.true_and]
    by_cases h3:a.2.1=b.2.1
    ·rw [show (a.2.1==b.2.1)=true by simp [h3],cond_true,decide_eq_false (not_not_intro h3),Bool.false_and]
    ·rw [show (a.2.1==b.2.1)=false by simpa using h3,cond_false,decide_eq_true h3,Bool.true_and]
     exact ih
   ·rw [decide_eq_true (show a.1≥b.1 by omega),cond_true,decide_eq_false h2]
    rfl
  ·rw [decide_eq_true (show b.1≥n by omega),cond_true,decide_eq_false h1]
   rfl
theorem Fine_eq8 (l:List Rn) (n:Int) (hl:l.length≤9223372036854775807):cref08_Fine (l,n)=some (fineR l n):=by
 show nref08_Fine (iterV (gref08_Fine_0 big) big) (l,n)=_
 unfold nref08_Fine
 dsimp only
 cases l with
 | nil=>rfl
 | cons r t=>
  simp only [List.length_cons] at hl
  rw [decide_eq_false (by simp;omega),cond_false,tget0,Option.bind_some]
  show _=some ((decide (r.1=0)&&decide (0 < n))&&inc 0 r.2.1 t n)
  by_cases h0:r.1=0
  ·rw [show (r.1 != 0)=false by simp [h0],cond_false,decide_eq_true h0,Bool.true_and]
   rw [big_pos,iterV_succ]
   show href08_Fine_0 _ _=_
   unfold href08_Fine_0
   dsimp only
   rw [decide_eq_true (show (0:Int) < ((r::t).length:Int) by simp only [List.length_cons];omega),cond_true,tget0,Option.bind_some,h0]
   by_cases h1:0 < n
   ·rw [decide_eq_false (show ¬ (0:Int)≥n by omega),cond_false,decide_eq_false (show ¬ (0:Int) > 0 by omega),cond_false,decide_eq_true h1,Bool.true_and]
    have:=fine_loop big n t [] r (big - 1) (by simp;omega) (by have:=tbigm (n:=t.length+1) (by omega);omega)
    rw [h0] at this
    exact this
   ·rw [decide_eq_true (show (0:Int)≥n by omega),cond_true,decide_eq_false h1]
    rfl
  ·rw [show (r.1 != 0)=true by simpa using h0,cond_true,decide_eq_false h0]
   rfl
def checkR (l:List Rn) (n:Int):Int:=if n < 1∨n > 200 then 2 else if fineR l n=true then 0 else 8
theorem checkR_zero {l:List Rn} {n:Int}:checkR l n=0↔(1≤n∧n≤200)∧fineR l n=true:=by
 unfold checkR
 split
 ·constructor
  ·intro e;omega
  ·intro e;omega
 ·split
  ·rename_i h1 h2;simp [h2];omega
  ·rename_i h1 h2;simp [h2]
theorem checkR_len {l:List Rn} {n:Int} (h:checkR l n=0):l.length≤200:=by
 obtain ⟨h1,h2⟩:=checkR_zero.1 h
 have:=fineR_len (l:=l) (n:=n.toNat) (by rw [Int.toNat_of_nonneg (by omega)];exact h2)
 omega
def segR:Int→List Rn→List Int
 | _,[]=>[]
 | w,r::l=>vary (r.1 - w).toNat++(vary r.2.1.toNat++segR r.1 l)
def codedR (l:List Rn):List Int:=vary l.length++segR 0 l
def V64 (l:List Rn):Prop:=∀ r∈l,0≤r.2.1∧r.2.1 < 18446744073709551616
theorem coded_loop (N:Nat) {n:Int} (hn:n≤200):∀ (t pre:List Rn) (f v:Int) (out:List Int) (M:Nat),inc f v t n=true→-1≤f→(∀ r∈t,0≤r.2.1∧r.2.1 < 18446744073709551616)→pre.length+t.length≤1000000→out.length+20 * t.length≤1000000→t.length < M→∀ w:Int,(0≤w∧w≤200∧(w≤f+1))→iterV (gref08_Coded_0 N) M (pre++t,w,((pre.length:Nat):Int),out)=some (out++segR w t)
 | [],pre,f,v,out,M+1,hi,hf,hv,hl,ho,hM,w,hw=>by
  rw [iterV_succ]
  show href08_Coded_0 _ _=_
  unfold href08_Coded_0
  dsimp only
  rw [decide_eq_false (by simp),cond_false]
  simp [segR]
 | r::t,pre,f,v,out,M+1,hi,hf,hv,hl,ho,hM,w,hw=>by
  rw [iterV_succ]
  show href08_Coded_0 _ _=_
  unfold href08_Coded_0
  dsimp only
  simp only [List.length_cons] at hl ho hM
  obtain ⟨⟨h1,h2,h3⟩,h4⟩:=inc_cons.1 hi
  have hr:=hv r (by simp)
  have e4:IntKind.i64.wrap (((pre.length:Nat):Int)+1)=(((pre++[r]).length:Nat):Int):=by rw [t64 (by omega) (by omega)];simp
  have ea:IntKind.u64.wrap (IntKind.i64.wrap (r.1 - w))=(((r.1 - w).toNat:Nat):Int):=by rw [t64 (by omega) (by omega),wrap_u64];omega
  have eb:cref02_Minimal r.2.1=some (vary r.2.1.toNat):=by
   have:=minimal_eq r.2.1.toNat (by omega)
   rwa [Int.toNat_of_nonneg hr.1] at this
  have la:=vary_len (r.1 - w).toNat
  have lb:=vary_len r.2.1.toNat
  have ih:=coded_loop N hn t (pre++[r]) r.1 r.2.1 (out++vary (r.1 - w).toNat++vary r.2.1.toNat) M h4 (by omega) (fun x hx=>hv x (by simp [hx])) (by simp;omega) (by simp only [List.length_append];omega) (by omega) r.1 (by omega)
  simp only [List.append_assoc,List.singleton_append] at ih
  rw [decide_eq_true (show ((pre.length:Nat):Int) < ((pre++r::t).length:Int) by simp;omega),cond_true]
  simp only [tget rfl,Option.bind_some,e4,ea,minimal_eq _ (show (r.1 - w).toNat < 18446744073709551616 by omega),eb]
  rw [b11,ble_lim (by omega),Bool.and_self,cond_true,show List.append out (vary (r.1 - w).toNat)=out++vary (r.1 - w).toNat from rfl,ble_lim (by simp only [List.length_append];omega),Bool.and_self,cond_true]
  rw [show List.append (out++vary (r.1 - w).toNat) (vary r.2.1.toNat)=out++(vary (r.1 - w).toNat++vary r.2.1.toNat) by simp]
  rw [ih]
  simp [segR]
theorem Coded_eq8 {l:List Rn} {n:Int} (h:fineR l n=true) (hn:n≤200) (hv:V64 l):cref08_Coded l=some (codedR l):=by
 have hlen:l.length≤200:=by
  have h0:0 < n:=by
   cases l with
   | nil=>cases h
   | cons r t=>simp only [fineR,Bool.and_eq_true,decide_eq_true_eq] at h;exact h.1.2
  have:=fineR_len (l:=l) (n:=n.toNat) (by rw [Int.toNat_of_nonneg (by omega)];exact h)
  omega
 show nref08_Coded (iterV (gref08_Coded_0 big) big) l=_
 unfold nref08_Coded
 dsimp only
 have la:=vary_len l.length
 rw [show IntKind.u64.wrap (l.length:Int)=(l.length:Int) by rw [wrap_u64];omega,minimal_eq _ (by omega),Option.bind_some]
 have hinc:∃ v,inc (-1) v l n=true:=by
  cases l with
  | nil=>exact ⟨0,rfl⟩
  | cons r t=>
   simp only [fineR,Bool.and_eq_true,decide_eq_true_eq] at h
   refine ⟨r.2.1 - 1,inc_cons.2 ⟨⟨by omega,by omega,by omega⟩,by rw [h.1.1];exact h.2⟩⟩
 obtain ⟨v,hinc⟩:=hinc
 exact coded_loop big hn l [] (-1) v (vary l.length) big hinc (by omega) hv (by simp;omega) (by omega) (tbig (by omega)) 0 (by omega)
def rdP (bs:List Int):Nat→Nat→Int×Nat×List (Nat×Nat)
 | 0,a=>(0,a,[])
 | k+1,a=>
  if (rd 10 0 (bs.drop a)).2.2=0 then
   if (rd 10 0 (bs.drop (a+(rd 10 0 (bs.drop a)).2.1))).2.2=0 then
    ((rdP bs k (a+(rd 10 0 (bs.drop a)).2.1+(rd 10 0 (bs.drop (a+(rd 10 0 (bs.drop a)).2.1))).2.1)).1,(rdP bs k (a+(rd 10 0 (bs.drop a)).2.1+(rd 10 0 (bs.drop (a+(rd 10 0 (bs.drop a)).2.1))).2.1)).2.1,
     ((rd 10 0 (bs.drop a)).1,(rd 10 0 (bs.drop (a+(rd 10 0 (bs.drop a)).2.1))).1)::(rdP bs k (a+(rd 10 0 (bs.drop a)).2.1+(rd 10 0 (bs.drop (a+(rd 10 0 (bs.drop a)).2.1))).2.1)).2.2)
   else ((rd 10 0 (bs.drop (a+(rd 10 0 (bs.drop a)).2.1))).2.2,0,[])
  else ((rd 10 0 (bs.drop a)).2.2,0,[])
def sat1 (w b:Int):Int:=if 1000 < w+(if 1000 < b then 1000 else b) then 1000 else w+(if 1000 < b then 1000 else b)
def satR:Int→List (Nat×Nat)→List Rn
 | _,[]=>[]
 | w,p::ps=>(sat1 w p.1,(p.2:Int),())::satR (sat1 w p.1) ps
def decF (bs:List Int) (n:Int) (out:List Rn) (w:Int) (z:Int×Nat×List (Nat×Nat)):Cur×List Rn×Int:=
 if z.1≠0 then (zc,[],z.1) else if fineR (out++satR w z.2.2) n=true then ((bs,((z.2.1:Int),())),out++satR w z.2.2,0) else (zc,[],12)
def decT (bs:List Int) (a:Nat) (n:Int):Cur×List Rn×Int:=
 if (rd 10 0 (bs.drop a)).2.2≠0 then (zc,[],(rd 10 0 (bs.drop a)).2.2) else if ((rd 10 0 (bs.drop a)).1:Int) > n then (zc,[],4) else decF bs n [] 0 (rdP bs (rd 10 0 (bs.drop a)).1 (a+(rd 10 0 (bs.drop a)).2.1))
def decR (c:Cur) (n:Int):Cur×List Rn×Int:=if Valid c then (if n < 1∨n > 200 then (zc,[],2) else decT c.1 c.2.1.toNat n) else (zc,[],8)
theorem sat1_range {w:Int} {b:Nat} (h0:0≤w):0≤sat1 w b∧sat1 w b≤1000:=by
 unfold sat1
 split <;> split at * <;> omega
theorem satR_len:∀ (w:Int) (ps:List (Nat×Nat)),(satR w ps).length=ps.length
 | _,[]=>rfl
 | w,p::ps=>by simp [satR,satR_len]
theorem read_loop8 (N:Nat) (n k:Int) (bs:List Int) (h1:bs.length≤200000) (hb:Bytes bs) (u:Int×Unit) (z:List Int):∀ (m i a:Nat) (w:Int) (out:List Rn) (M:Nat),(i:Int)+m=k→0≤w→w≤1000→a≤bs.length→out.length+m≤1000000→i+m≤1000000→m < M→
  iterV (gref08_Read_0 N) M (n,k,w,(i:Int),u,z,(bs,((a:Int),())),out)=some (decF bs n out w (rdP bs m a))
 | 0,i,a,w,out,M+1,hk,hw0,hw1,ha,ho,hi,hM=>by
  rw [iterV_succ]
  show href08_Read_0 _ _=_
  unfold href08_Read_0
  dsimp only
  rw [decide_eq_false (show ¬ (i:Int) < k by omega),cond_false,Fine_eq8 out n (by omega),Option.bind_some]
  simp only [decF,rdP,satR,List.append_nil,ne_eq,not_true_eq_false,if_false]
  cases fineR out n <;> rfl
 | m+1,i,a,w,out,M+1,hk,hw0,hw1,ha,ho,hi,hM=>by
  rw [iterV_succ]
  show href08_Read_0 _ _=_
  unfold href08_Read_0
  dsimp only
  rw [decide_eq_true (show (i:Int) < k by omega),cond_true,rRead1 bs a h1 ha hb,Option.bind_some]
  unfold rdP
  by_cases hx:(rd 10 0 (bs.drop a)).2.2=0
  ·obtain ⟨x1,x2,x3,x4⟩:=rd_good (bytes_drop hb a) hx
   simp only [List.length_drop] at x2
   simp only [if_pos hx]
   rw [show ((0:Int) != 0)=false from rfl,cond_false,rRead1 bs _ h1 (by omega) hb,Option.bind_some]
   by_cases hy:(rd 10 0 (bs.drop (a+(rd 10 0 (bs.drop a)).2.1))).2.2=0
   ·obtain ⟨y1,y2,y3,y4⟩:=rd_good (bytes_drop hb _) hy
    simp only [List.length_drop] at y2
    simp only [if_pos hy]
    rw [show ((0:Int) != 0)=false from rfl,cond_false]
    have hs:=sat1_range (b:=(rd 10 0 (bs.drop a)).1) hw0
    have e1:IntKind.u64.wrap (w+(if (1000:Int) < ((rd 10 0 (bs.drop a)).1:Int) then (1000:Int) else ((rd 10 0 (bs.drop a)).1:Int)))=w+(if (1000:Int) < ((rd 10 0 (bs.drop a)).1:Int) then (1000:Int) else ((rd 10 0 (bs.drop a)).1:Int)):=by
     rw [wrap_u64];split <;> omega
    rw [e1]
    rw [show (if (1000:Int) < w+(if (1000:Int) < ((rd 10 0 (bs.drop a)).1:Int) then (1000:Int) else ((rd 10 0 (bs.drop a)).1:Int)) then (1000:Int) else w+(if (1000:Int) < ((rd 10 0 (bs.drop a)).1:Int) then (1000:Int) else ((rd 10 0 (bs.drop a)).1:Int)))=sat1 w ((rd 10 0 (bs.drop a)).1:Int) from rfl]
    have ih:=read_loop8 N n k bs h1 hb u z m (i+1) (a+(rd 10 0 (bs.drop a)).2.1+(rd 10 0 (bs.drop (a+(rd 10 0 (bs.drop a)).2.1))).2.1) (sat1 w ((rd 10 0 (bs.drop a)).1:Int)) (out++[(sat1 w ((rd 10 0 (bs.drop a)).1:Int),((rd 10 0 (bs.drop (a+(rd 10 0 (bs.drop a)).2.1))).1:Int),())]) M (by omega) hs.1 hs.2 (by omega) (by simp;omega) (by omega) (by omega)
    generalize rd 10 0 (bs.drop (a+(rd 10 0 (bs.drop a)).2.1))=y at *
    generalize rd 10 0 (bs.drop a)=x at *
    rw [t64 (by omega) (by omega),show Nat.ble 1 2=true from rfl,ble_lim (by simp;omega),Bool.and_self,cond_true,show IntKind.u64.wrap ((i:Int)+1)=((i+1:Nat):Int) by rw [wrap_u64];omega]
    rw [show List.append out [(sat1 w (x.1:Int),(y.1:Int),())]=out++[(sat1 w (x.1:Int),(y.1:Int),())] from rfl,ih]
    simp only [decF,satR,List.append_assoc,List.singleton_append]
    rfl
   ·simp only [if_neg hy]
    rw [show ((rd 10 0 (bs.drop (a+(rd 10 0 (bs.drop a)).2.1))).2.2 != 0)=true by simpa using hy,cond_true]
    simp only [decF,ne_eq,hy,not_false_eq_true,if_true]
    rfl
  ·simp only [if_neg hx]
   rw [show ((rd 10 0 (bs.drop a)).2.2 != 0)=true by simpa using hx,cond_true]
   simp only [decF,ne_eq,hx,not_false_eq_true,if_true]
   rfl
theorem rDecode_eq8 (c:Cur) (n:Int) (hb:Bytes c.1) (hn : -9223372036854775808≤n∧n≤9223372036854775807):cref08_Decode (c,n)=some (decR c n):=by
 show nref08_Decode (c,n)=_
 unfold nref08_Decode decR
 dsimp only
 rw [check_eq c,Option.bind_some]
 by_cases hv:Valid c
 ·rw [if_pos hv,if_pos hv,show ((0:Int) != 0)=false from rfl,cond_false]
  by_cases h1:n < 1
  ·rw [decide_eq_true h1,if_pos (.inl h1)];rfl
  by_cases h2:n > 200
  ·rw [decide_eq_false h1,decide_eq_true h2,if_pos (.inr h2)];rfl
  rw [decide_eq_false h1,decide_eq_false h2,if_neg (by omega),cond_false,cond_false]
  obtain ⟨bs,at_,u⟩:=c
  obtain ⟨g1,g2,g3⟩:=hv
  simp only at g1 g2 g3 hb
  obtain ⟨a,rfl⟩:=Int.eq_ofNat_of_zero_le g2
  have key:cref08_Read ((bs,((a:Int),())),n)=some (decT bs a n):=by
   show nref08_Read (iterV (gref08_Read_0 big) big) ((bs,((a:Int),())),n)=_
   unfold nref08_Read decT
   dsimp only
   rw [rRead1 bs a g1 (by omega) hb,Option.bind_some,show IntKind.u64.wrap n=n by rw [wrap_u64];omega]
   by_cases hx:(rd 10 0 (bs.drop a)).2.2=0
   ·obtain ⟨x1,x2,x3,x4⟩:=rd_good (bytes_drop hb a) hx
    simp only [List.length_drop] at x2
    simp only [if_pos hx]
    rw [if_neg (by simp [hx]),show ((0:Int)==0)=true from rfl,cond_true,show ((0:Int) != 0)=false from rfl,cond_false]
    by_cases hk:((rd 10 0 (bs.drop a)).1:Int) > n
    ·rw [decide_eq_true hk,if_pos hk];rfl
    ·rw [decide_eq_false hk,if_neg hk,cond_false]
     exact read_loop8 big n _ bs g1 hb (0,()) [] (rd 10 0 (bs.drop a)).1 0 (a+(rd 10 0 (bs.drop a)).2.1) 0 [] big (by omega) (by omega) (by omega) (by omega) (by simp only [List.length_nil];omega) (by omega) (tbig (by omega))
   ·simp only [if_neg hx]
    rw [if_pos hx,show ((rd 10 0 (bs.drop a)).2.2==0)=false by simpa using hx,cond_false,show ((rd 10 0 (bs.drop a)).2.2 != 0)=true by simpa using hx,cond_true]
    rfl
  show ((cref08_Read ((bs,((a:Int),())),n)).bind fun x5=>some (x5.1,x5.2.1,x5.2.2))=_
  rw [key]
  rfl
 ·rw [if_neg hv,if_neg hv]
  rfl
def pairsR:Int→List Rn→List (Nat×Nat)
 | _,[]=>[]
 | w,r::l=>((r.1 - w).toNat,r.2.1.toNat)::pairsR r.1 l
theorem sat_pairs {n:Int} (hn:n≤200):∀ {t:List Rn} {f v w:Int},inc f v t n=true→0≤w→w≤f+1→(∀ r∈t,0≤r.2.1∧r.2.1 < 18446744073709551616)→satR w (pairsR w t)=t
 | [],_,_,_,_,_,_,_=>rfl
 | r::t,f,v,w,hi,h0,h1,hv=>by
  obtain ⟨⟨k1,k2,k3⟩,k4⟩:=inc_cons.1 hi
  have hr:=hv r (by simp)
  have e:sat1 w (((r.1 - w).toNat:Nat):Int)=r.1:=by
   unfold sat1
   split <;> split at * <;> omega
  simp only [pairsR,satR,e]
  rw [sat_pairs hn k4 (by omega) (by omega) fun x hx=>hv x (by simp [hx])]
  obtain ⟨a,b,c⟩:=r
  simp only at hr ⊢
  rw [Int.toNat_of_nonneg hr.1]
theorem seg_rd (rest:List Int) {n:Int} (hn:n≤200):∀ {t:List Rn} {f v w:Int} (pre:List Int),inc f v t n=true→0≤w→w≤f+1→(∀ r∈t,0≤r.2.1∧r.2.1 < 18446744073709551616)→
  rdP (pre++(segR w t++rest)) t.length pre.length=(0,pre.length+(segR w t).length,pairsR w t)
 | [],_,_,_,pre,_,_,_,_=>by simp [rdP,segR,pairsR]
 | r::t,f,v,w,pre,hi,h0,h1,hv=>by
  obtain ⟨⟨k1,k2,k3⟩,k4⟩:=inc_cons.1 hi
  have hr:=hv r (by simp)
  have l1:(r.1 - w).toNat < 18446744073709551616:=by omega
  have l2:r.2.1.toNat < 18446744073709551616:=by omega
  have ih:=seg_rd rest hn (t:=t) (pre++vary (r.1 - w).toNat++vary r.2.1.toNat) k4 (by omega:0≤r.1) (by omega) fun x hx=>hv x (by simp [hx])
  have e0:pre++(segR w (r::t)++rest)=pre++vary (r.1 - w).toNat++vary r.2.1.toNat++(segR r.1 t++rest):=by simp [segR]
  have e1:(pre++vary (r.1 - w).toNat++vary r.2.1.toNat++(segR r.1 t++rest)).drop pre.length=vary (r.1 - w).toNat++(vary r.2.1.toNat++(segR r.1 t++rest)):=by simp
  have e2:(pre++vary (r.1 - w).toNat++vary r.2.1.toNat++(segR r.1 t++rest)).drop (pre.length+(vary (r.1 - w).toNat).length)=vary r.2.1.toNat++(segR r.1 t++rest):=by
   rw [show pre.length+(vary (r.1 - w).toNat).length=(pre++vary (r.1 - w).toNat).length by simp,List.append_assoc (pre++vary (r.1 - w).toNat),List.drop_left]
  rw [e0,List.length_cons]
  unfold rdP
  simp only [e1,rd_of_vary _ _ l1,if_true,e2,rd_of_vary _ _ l2]
  rw [show pre.length+(vary (r.1 - w).toNat).length+(vary r.2.1.toNat).length=(pre++vary (r.1 - w).toNat++vary r.2.1.toNat).length by simp [Nat.add_assoc],ih]
  simp [segR,pairsR]
  omega
theorem fine_inc {l:List Rn} {n:Int} (h:fineR l n=true):∃ v,inc (-1) v l n=true:=by
 cases l with
 | nil=>exact ⟨0,rfl⟩
 | cons r t=>
  simp only [fineR,Bool.and_eq_true,decide_eq_true_eq] at h
  exact ⟨r.2.1 - 1,inc_cons.2 ⟨⟨by omega,by omega,by omega⟩,by rw [h.1.1];exact h.2⟩⟩
theorem dec_coded_at {l:List Rn} {n:Int} (h:fineR l n=true) (hn0:0≤n) (hn:n≤200) (hv:V64 l) (pre rest:List Int):decT (pre++(codedR l++rest)) pre.length n=((pre++(codedR l++rest),(((pre.length+(codedR l).length:Nat):Int),())),l,0):=by
 obtain ⟨v,hi⟩:=fine_inc h
 have hlen:=fineR_len (l:=l) (n:=n.toNat) (by rw [Int.toNat_of_nonneg hn0];exact h)
 unfold decT
 rw [List.drop_left]
 have e0:rd 10 0 (codedR l++rest)=(l.length,(vary l.length).length,0):=by
  rw [codedR,List.append_assoc]
  exact rd_of_vary _ _ (by omega)
 rw [e0]
 have hr:=seg_rd rest hn (pre++vary l.length) hi (by omega:(0:Int)≤0) (by omega) hv
 rw [show pre++vary l.length++(segR 0 l++rest)=pre++(codedR l++rest) by simp [codedR],List.length_append] at hr
 rw [if_neg (by simp),if_neg (by omega),hr]
 unfold decF
 rw [if_neg (by simp),List.nil_append,sat_pairs hn hi (by omega) (by omega) hv,if_pos h]
 simp [codedR,Nat.add_assoc]
theorem dec_coded {l:List Rn} {n:Int} (h:fineR l n=true) (hn0:0≤n) (hn:n≤200) (hv:V64 l) (rest:List Int):decT (codedR l++rest) 0 n=((codedR l++rest,(((codedR l).length:Int),())),l,0):=by
 have:=dec_coded_at h hn0 hn hv [] rest
 simpa using this
theorem rdP_back (bs:List Int) (hb:Bytes bs) {n:Int} (hn:n≤200):∀ (k a:Nat) {f v w:Int},a≤bs.length→(rdP bs k a).1=0→0≤w→inc f v (satR w (rdP bs k a).2.2) n=true→
  (rdP bs k a).2.2.length=k∧a≤(rdP bs k a).2.1∧(rdP bs k a).2.1≤bs.length∧segR w (satR w (rdP bs k a).2.2)=(bs.drop a).take ((rdP bs k a).2.1 - a)∧V64 (satR w (rdP bs k a).2.2)
 | 0,a,f,v,w,ha,_,_,_=>by simp [rdP,satR,segR,ha,V64]
 | k+1,a,f,v,w,ha,he,hw,hi=>by
  unfold rdP at he hi ⊢
  by_cases hx:(rd 10 0 (bs.drop a)).2.2=0
  ·obtain ⟨x1,x2,x3,x4⟩:=rd_good (bytes_drop hb a) hx
   simp only [List.length_drop] at x2
   simp only [if_pos hx] at he hi ⊢
   by_cases hy:(rd 10 0 (bs.drop (a+(rd 10 0 (bs.drop a)).2.1))).2.2=0
   ·obtain ⟨y1,y2,y3,y4⟩:=rd_good (bytes_drop hb _) hy
    simp only [List.length_drop] at y2
    simp only [if_pos hy] at he hi ⊢
    simp only [satR] at hi ⊢
    obtain ⟨⟨k1,k2,k3⟩,k4⟩:=inc_cons.1 hi
    simp only at k1 k2 k3 k4
    have hs:=sat1_range (b:=(rd 10 0 (bs.drop a)).1) hw
    have e1:sat1 w ((rd 10 0 (bs.drop a)).1:Int)=w+(rd 10 0 (bs.drop a)).1:=by
     unfold sat1 at k1 ⊢
     split at k1 <;> split at k1 <;> (first | omega | (rw [if_neg (by omega),if_neg (by omega)]))
    obtain ⟨g1,g2,g3,g4,g5⟩:=rdP_back bs hb hn k (a+(rd 10 0 (bs.drop a)).2.1+(rd 10 0 (bs.drop (a+(rd 10 0 (bs.drop a)).2.1))).2.1) (by omega) he hs.1 k4
    refine ⟨by simp [g1],by omega,g3,?_,fun r hr=>?_⟩
    ·simp only [segR,g4]
     rw [show (sat1 w ((rd 10 0 (bs.drop a)).1:Int) - w).toNat=(rd 10 0 (bs.drop a)).1 by omega,x4,Int.toNat_natCast,y4]
     generalize hz:(rdP bs k (a+(rd 10 0 (bs.drop a)).2.1+(rd 10 0 (bs.drop (a+(rd 10 0 (bs.drop a)).2.1))).2.1)).2.1=z at *
     generalize (rd 10 0 (bs.drop (a+(rd 10 0 (bs.drop a)).2.1))).2.1=p at *
     generalize (rd 10 0 (bs.drop a)).2.1=o at *
     rw [show z - a=o+(p+(z - (a+o+p))) by omega,List.take_add,List.take_add,List.drop_drop,List.drop_drop]
    ·rcases List.mem_cons.1 hr with rfl | hr
     ·exact ⟨by simp only;omega,by simp only;omega⟩
     ·exact g5 r hr
   ·simp only [if_neg hy] at he
    exact absurd he hy
  ·simp only [if_neg hx] at he
   exact absurd he hx
theorem dec_good {bs:List Int} (hb:Bytes bs) {n:Int} (hn:n≤200) (h:(decT bs 0 n).2.2=0):fineR (decT bs 0 n).2.1 n=true∧V64 (decT bs 0 n).2.1∧1≤(decT bs 0 n).1.2.1∧(decT bs 0 n).1.2.1≤(bs.length:Int)∧codedR (decT bs 0 n).2.1=bs.take (decT bs 0 n).1.2.1.toNat:=by
 unfold decT at h ⊢
 simp only [List.drop_zero,Nat.zero_add] at h ⊢
 by_cases hx:(rd 10 0 bs).2.2=0
 ·obtain ⟨x1,x2,x3,x4⟩:=rd_good hb hx
  simp only [ne_eq,hx,not_true_eq_false,if_false] at h ⊢
  split at h
  ·simp at h
  ·rename_i hk
   rw [if_neg hk]
   unfold decF at h ⊢
   by_cases he:(rdP bs (rd 10 0 bs).1 (rd 10 0 bs).2.1).1=0
   ·simp only [ne_eq,he,not_true_eq_false,if_false,List.nil_append] at h ⊢
    split at h
    ·rename_i hf
     rw [if_pos hf]
     obtain ⟨v,hi⟩:=fine_inc hf
     obtain ⟨g1,g2,g3,g4,g5⟩:=rdP_back bs hb hn (rd 10 0 bs).1 (rd 10 0 bs).2.1 (w:=0) x2 he (by omega) hi
     refine ⟨hf,g5,by simp only;omega,by simp only;omega,?_⟩
     simp only [codedR,satR_len,g1,g4,x4,Int.toNat_natCast]
     generalize (rdP bs (rd 10 0 bs).1 (rd 10 0 bs).2.1).2.1=z at *
     generalize (rd 10 0 bs).2.1=o at *
     rw [show z=o+(z - o) by omega,List.take_add]
     congr 3
     omega
    ·simp at h
   ·simp only [ne_eq,he,not_false_eq_true,if_true] at h
 ·simp only [ne_eq,hx,not_false_eq_true,if_true] at h
theorem tnth {α:Type}:∀ (xs:List α) (i:Nat),nth xs i=xs[i]?
 | [],0=>rfl
 | [],i+1=>rfl
 | _::_,0=>rfl
 | x::xs,i+1=>(tnth xs i).trans List.getElem?_cons_succ.symm
theorem count_eq8 (n:Int):ctables_isCount n=some (decide (1≤n∧n≤200)):=by
 show ntables_isCount n=_
 unfold ntables_isCount
 by_cases h:1≤n
 ·rw [decide_eq_true (show n≥1 by omega),cond_true]
  congr 1
  by_cases h2:n≤200 <;> simp [h,h2]
 ·rw [decide_eq_false (show ¬ n≥1 by omega),cond_false]
  simp [h]
theorem same_eq8 (a b:Rn):ctables_sameValue (a,b)=some (decide (a.2.1=b.2.1)):=by
 show some (eqD (.pair (.int .i64) (.pair (.int .u64) .unit)) (b.1,a.2) b)=_
 congr 1
 obtain ⟨a1,a2,a3⟩:=a
 obtain ⟨b1,b2,b3⟩:=b
 by_cases h:a2=b2
 ·subst h
  rw [decide_eq_true rfl]
  exact eqD_self _ _
 ·rw [decide_eq_false h]
  refine eqD_false fun e=>h ?_
  have:=congrArg (fun z:Rn=>z.2.1) e
  exact this
def incP:Int→Int→List Rn→Bool
 | _,_,[]=>true
 | f,v,r::l=>(decide (f < r.1)&&decide (v≠r.2.1))&&incP r.1 r.2.1 l
def lastF:Int→List Rn→Int
 | f,[]=>f
 | _,r::l=>lastF r.1 l
theorem lastF_ge:∀ {l:List Rn} {f v:Int},incP f v l=true→f≤lastF f l
 | [],f,v,_=>Int.le_refl _
 | r::l,f,v,h=>by
  simp only [incP,Bool.and_eq_true,decide_eq_true_eq] at h
  have:=lastF_ge h.2
  simp only [lastF]
  omega
theorem inc_split:∀ {l:List Rn} {f v n:Int},f < n→(inc f v l n=true↔incP f v l=true∧lastF f l < n)
 | [],f,v,n,hf=>by simp [inc,incP,lastF,hf]
 | r::l,f,v,n,hf=>by
  rw [inc_cons]
  simp only [incP,lastF,Bool.and_eq_true,decide_eq_true_eq]
  constructor
  ·rintro ⟨⟨h1,h2,h3⟩,h4⟩
   have:=(inc_split h1).1 h4
   exact ⟨⟨⟨h2,h3⟩,this.1⟩,this.2⟩
  ·rintro ⟨⟨⟨h2,h3⟩,h4⟩,h5⟩
   have:=lastF_ge h4
   have h1:r.1 < n:=by omega
   exact ⟨⟨h1,h2,h3⟩,(inc_split h1).2 ⟨h4,h5⟩⟩
theorem lastF_at:∀ (r:Rn) (t:List Rn),∃ z,(r::t)[t.length]? = some z∧z.1=lastF r.1 t
 | r,[]=>⟨r,rfl,rfl⟩
 | r,b::t=>by
  obtain ⟨z,h1,h2⟩:=lastF_at b t
  exact ⟨z,by simpa using h1,h2⟩
theorem chk_loop8 (N:Nat):∀ (t pre:List Rn) (a:Rn) (M:Nat),pre.length+t.length+1≤9223372036854775807→t.length < M→
  iterV (gtables_Check_0 N) M (pre++a::t,((pre.length+t.length:Nat):Int),((pre.length:Nat):Int))=some (if incP a.1 a.2.1 t=true then 0 else 8)
 | [],pre,a,M+1,hl,hM=>by
  rw [iterV_succ]
  show htables_Check_0 _ _=_
  unfold htables_Check_0
  dsimp only
  rw [decide_eq_false (by simp),cond_false]
  rfl
 | b::t,pre,a,M+1,hl,hM=>by
  rw [iterV_succ]
  show htables_Check_0 _ _=_
  unfold htables_Check_0
  dsimp only
  simp only [List.length_cons] at hl hM
  have e1:getI (pre++a::b::t) ((pre.length+1:Nat):Int)=some b:=by
   rw [show pre++a::b::t=(pre++[a])++b::t by simp]
   exact tget (by simp)
  have e2:getI (pre++a::b::t) ((pre.length:Nat):Int)=some a:=tget rfl
  have e4:IntKind.i64.wrap (((pre.length:Nat):Int)+1)=((pre.length+1:Nat):Int):=by rw [t64 (by omega) (by omega)];simp
  rw [decide_eq_true (show ((pre.length:Nat):Int) < ((pre.length+(b::t).length:Nat):Int) by simp only [List.length_cons];omega),cond_true]
  simp only [e1,e2,e4,Option.bind_some,same_eq8]
  have ih:=chk_loop8 N t (pre++[a]) b M (by simp;omega) (by omega)
  rw [show (pre++[a])++b::t=pre++a::b::t by simp,show (pre++[a]).length+t.length=pre.length+(b::t).length by simp;omega,show (pre++[a]).length=pre.length+1 by simp] at ih
  unfold incP
  by_cases h1:a.1 < b.1
  ·rw [decide_eq_false (show ¬ a.1≥b.1 by omega),cond_false,decide_eq_true h1,Bool.true_and]
   by_cases h2:a.2.1=b.2.1
   ·rw [decide_eq_true h2,cond_true,decide_eq_false (not_not_intro h2),Bool.false_and]
    rfl
   ·rw [decide_eq_false h2,cond_false,decide_eq_true h2,Bool.true_and]
    exact ih
  ·rw [decide_eq_true (show a.1≥b.1 by omega),cond_true,decide_eq_false h1]
   rfl
theorem pCheck_eq (l:List Rn) (n:Int) (hl:l.length≤9223372036854775807):ctables_Check (l,n)=some (checkR l n):=by
 show ntables_Check (iterV (gtables_Check_0 big) big) (l,n)=_
 unfold ntables_Check checkR
 dsimp only
 rw [count_eq8,Option.bind_some]
 by_cases hn:1≤n∧n≤200
 ·rw [decide_eq_true hn,Bool.not_true,cond_false,if_neg (by omega)]
  cases l with
  | nil=>rfl
  | cons r t=>
   simp only [List.length_cons] at hl
   rw [show (((r::t).length:Int)==0)=false by simp;omega,cond_false,tget0,Option.bind_some]
   have hx:IntKind.i64.wrap (((r::t).length:Int) - 1)=((t.length:Nat):Int):=by
    simp only [List.length_cons]
    rw [t64 (by omega) (by omega)]
    omega
   obtain ⟨z,hz1,hz2⟩:=lastF_at r t
   simp only [hx,getI_nat,hz1,Option.bind_some]
   show _=some (if ((decide (r.1=0)&&decide (0 < n))&&inc 0 r.2.1 t n)=true then 0 else 8)
   by_cases h0:r.1=0
   ·rw [show (r.1 != 0)=false by simp [h0],cond_false,decide_eq_true h0,decide_eq_true (show 0 < n by omega),Bool.true_and,Bool.true_and]
    have hs:=inc_split (l:=t) (f:=r.1) (v:=r.2.1) (n:=n) (by omega)
    rw [h0] at hs hz2
    by_cases hlast:z.1≥n
    ·rw [decide_eq_true hlast,cond_true,if_neg (fun h=>by have:=(hs.1 h).2;omega)]
    ·rw [decide_eq_false hlast,cond_false]
     have:=chk_loop8 big t [] r big (by simp;omega) (tbigm (by omega))
     simp only [List.nil_append,List.length_nil,Nat.zero_add,h0] at this
     refine this.trans ?_
     congr 1
     by_cases hp:incP 0 r.2.1 t=true
     ·rw [if_pos hp,if_pos (hs.2 ⟨hp,by omega⟩)]
     ·rw [if_neg hp,if_neg (fun h=>hp (hs.1 h).1)]
   ·rw [show (r.1 != 0)=true by simp [h0],cond_true,decide_eq_false h0]
    rfl
 ·rw [decide_eq_false hn,Bool.not_false,cond_true,if_pos (by omega)]
def prg1 (n w:Int) (b:Nat):Int:=w+(if n < (b:Int) then n else (b:Int))
def prgR (n:Int):Int→List (Nat×Nat)→List Rn
 | _,[]=>[]
 | w,p::ps=>(prg1 n w p.1,(p.2:Int),())::prgR n (prg1 n w p.1) ps
theorem prg_sat {n w:Int} {b:Nat} (h0:0≤w) (hn:0≤n∧n≤200):(prg1 n w b < n→sat1 w b=prg1 n w b)∧(sat1 w b < n→sat1 w b=prg1 n w b):=by
 unfold prg1 sat1
 constructor <;> intro h <;> (split at * <;> split at * <;> (try split at *) <;> omega)
theorem prg_inc {n:Int} (hn:0≤n∧n≤200):∀ (ps:List (Nat×Nat)) {f v w:Int},0≤w→(inc f v (prgR n w ps) n=true∨inc f v (satR w ps) n=true)→prgR n w ps=satR w ps
 | [],_,_,_,_,_=>rfl
 | p::ps,f,v,w,h0,h=>by
  have hs:=prg_sat (b:=p.1) h0 hn
  have e:sat1 w (p.1:Int)=prg1 n w p.1:=by
   rcases h with h | h
   ·exact hs.1 (inc_cons.1 h).1.1
   ·exact hs.2 (inc_cons.1 h).1.1
  have hw:0≤prg1 n w p.1:=by unfold prg1;split <;> omega
  simp only [prgR,satR,e]
  congr 1
  refine prg_inc hn ps (f:=prg1 n w p.1) (v:=(p.2:Int)) hw ?_
  rcases h with h | h
  ·exact .inl (inc_cons.1 h).2
  ·have:=(inc_cons.1 h).2
   rw [e] at this
   exact .inr this
theorem prg_fine {n:Int} (hn:0≤n∧n≤200) (ps:List (Nat×Nat)) (h:fineR (prgR n 0 ps) n=true∨fineR (satR 0 ps) n=true):prgR n 0 ps=satR 0 ps:=by
 rcases h with h | h
 ·obtain ⟨v,hv⟩:=fine_inc h
  exact prg_inc hn ps (Int.le_refl _) (.inl hv)
 ·obtain ⟨v,hv⟩:=fine_inc h
  exact prg_inc hn ps (Int.le_refl _) (.inr hv)
def decP8 (bs:List Int) (n:Int) (out:List Rn) (w:Int) (z:Int×Nat×List (Nat×Nat)):Cur×List Rn×Int:=
 if z.1≠0 then (zc,[],z.1) else if fineR (out++prgR n w z.2.2) n=true then ((bs,((z.2.1:Int),())),out++prgR n w z.2.2,0) else (zc,[],12)
theorem readRun_eq8 (bs:List Int) (a:Nat) (w n:Int) (h1:bs.length≤200000) (h2:a≤bs.length) (hb:Bytes bs) (hn:1≤n∧n≤200) (hw:0≤w∧w≤1000000):ctables_readRun ((bs,((a:Int),())),w,n) =
  some (if (rd 10 0 (bs.drop a)).2.2=0 then (if (rd 10 0 (bs.drop (a+(rd 10 0 (bs.drop a)).2.1))).2.2=0 then
   ((bs,(((a+(rd 10 0 (bs.drop a)).2.1+(rd 10 0 (bs.drop (a+(rd 10 0 (bs.drop a)).2.1))).2.1:Nat):Int),())),(prg1 n w (rd 10 0 (bs.drop a)).1,((rd 10 0 (bs.drop (a+(rd 10 0 (bs.drop a)).2.1))).1:Int),()),0)
   else (zc,(0,0,()),(rd 10 0 (bs.drop (a+(rd 10 0 (bs.drop a)).2.1))).2.2)) else (zc,(0,0,()),(rd 10 0 (bs.drop a)).2.2)):=by
 show ntables_readRun _=_
 unfold ntables_readRun
 dsimp only
 have va:Valid (bs,((a:Int),())):=⟨h1,by simp,by simpa using h2⟩
 rw [unvary_eq _ _ hb,if_pos va,Option.bind_some]
 simp only [Int.toNat_natCast,outc,Nat.zero_add,Nat.pow_zero,Nat.mul_one]
 by_cases hx:(rd 10 0 (bs.drop a)).2.2=0
 ·obtain ⟨x1,x2,x3,x4⟩:=rd_good (bytes_drop hb a) hx
  simp only [List.length_drop] at x2
  simp only [if_pos hx]
  rw [if_neg (by omega)]
  simp only
  rw [show ((0:Int) != 0)=false from rfl,cond_false]
  have vb:Valid (bs,(((a+(rd 10 0 (bs.drop a)).2.1:Nat):Int),())):=⟨h1,by simp only;omega,by simp only;omega⟩
  rw [unvary_eq _ _ hb,if_pos vb,Option.bind_some]
  simp only [Int.toNat_natCast,outc,Nat.zero_add,Nat.pow_zero,Nat.mul_one]
  by_cases hy:(rd 10 0 (bs.drop (a+(rd 10 0 (bs.drop a)).2.1))).2.2=0
  ·obtain ⟨y1,y2,y3,y4⟩:=rd_good (bytes_drop hb _) hy
   simp only [if_pos hy]
   rw [if_neg (by omega)]
   simp only
   rw [show ((0:Int) != 0)=false from rfl,cond_false]
   congr 1
   rw [show IntKind.u64.wrap n=n by rw [wrap_u64];omega]
   have e:IntKind.i64.wrap (w+IntKind.i64.wrap (if n < ((rd 10 0 (bs.drop a)).1:Int) then n else ((rd 10 0 (bs.drop a)).1:Int)))=prg1 n w (rd 10 0 (bs.drop a)).1:=by
    unfold prg1
    split
    ·rw [t64 (z:=n) (by omega) (by omega),t64 (by omega) (by omega)]
    ·rw [t64 (z:=((rd 10 0 (bs.drop a)).1:Int)) (by omega) (by omega),t64 (by omega) (by omega)]
   rw [e]
  ·simp only [if_neg hy]
   rw [show ((rd 10 0 (bs.drop (a+(rd 10 0 (bs.drop a)).2.1))).2.2 != 0)=true by simpa using hy,cond_true]
   rfl
 ·simp only [if_neg hx]
  rw [show ((rd 10 0 (bs.drop a)).2.2 != 0)=true by simpa using hx,cond_true]
  rfl
theorem dec_loop8 (N:Nat) (n:Int) (hn:1≤n∧n≤200) (bs:List Int) (h1:bs.length≤200000) (hb:Bytes bs) (u:Int×Unit) (z:List Int):∀ (m a:Nat) (w:Int) (out:List Rn) (M:Nat),0≤w→w≤200 * (out.length:Int)→a≤bs.length→out.length+m≤200→m < M→
  iterV (gtables_Decode_0 (fun _=>List.replicate) N) M (n,w,((out.length+m:Nat):Int),((out.length:Nat):Int),(bs,((a:Int),())),u,z,out++List.replicate m (0,0,()))=some (decP8 bs n out w (rdP bs m a))
 | 0,a,w,out,M+1,hw0,hw1,ha,ho,hM=>by
  rw [iterV_succ]
  show htables_Decode_0 _ _ _=_
  unfold htables_Decode_0
  dsimp only
  rw [decide_eq_false (by omega),cond_false]
  simp only [List.replicate_zero,List.append_nil]
  rw [pCheck_eq out n (by omega),Option.bind_some]
  simp only [decP8,rdP,prgR,List.append_nil,ne_eq,not_true_eq_false,if_false]
  unfold checkR
  rw [if_neg (by omega)]
  by_cases hf:fineR out n=true
  ·simp [hf]
  ·simp [hf,zc]
 | m+1,a,w,out,M+1,hw0,hw1,ha,ho,hM=>by
  rw [iterV_succ]
  show htables_Decode_0 _ _ _=_
  unfold htables_Decode_0
  dsimp only
  rw [decide_eq_true (show ((out.length:Nat):Int) < ((out.length+(m+1):Nat):Int) by omega),cond_true,readRun_eq8 bs a w n h1 ha hb hn (by omega),Option.bind_some]
  rw [decide_eq_true (show (0:Int)≤((out.length:Nat):Int) by omega),decide_eq_true (show ((out.length:Nat):Int) < ((out++List.replicate (m+1) ((0,0,()):Rn)).length:Int) by simp;omega),Bool.and_self,cond_true,Int.toNat_natCast]
  have hset:∀ r:Rn,List.set (out++List.replicate (m+1) ((0,0,()):Rn)) out.length r=(out++[r])++List.replicate m (0,0,()):=by
   intro r
   rw [List.set_append_right _ _ (Nat.le_refl _),Nat.sub_self,List.replicate_succ]
   simp
  unfold rdP
  by_cases hx:(rd 10 0 (bs.drop a)).2.2=0
  ·obtain ⟨x1,x2,x3,x4⟩:=rd_good (bytes_drop hb a) hx
   simp only [List.length_drop] at x2
   simp only [if_pos hx]
   by_cases hy:(rd 10 0 (bs.drop (a+(rd 10 0 (bs.drop a)).2.1))).2.2=0
   ·obtain ⟨y1,y2,y3,y4⟩:=rd_good (bytes_drop hb _) hy
    simp only [List.length_drop] at y2
    simp only [if_pos hy]
    rw [show ((0:Int) != 0)=false from rfl,cond_false,hset]
    have hp0:0≤prg1 n w (rd 10 0 (bs.drop a)).1∧prg1 n w (rd 10 0 (bs.drop a)).1≤w+200:=by unfold prg1;split <;> omega
    have ih:=dec_loop8 N n hn bs h1 hb u z m (a+(rd 10 0 (bs.drop a)).2.1+(rd 10 0 (bs.drop (a+(rd 10 0 (bs.drop a)).2.1))).2.1) (prg1 n w (rd 10 0 (bs.drop a)).1) (out++[(prg1 n w (rd 10 0 (bs.drop a)).1,((rd 10 0 (bs.drop (a+(rd 10 0 (bs.drop a)).2.1))).1:Int),())]) M hp0.1 (by simp;omega) (by omega) (by simp;omega) (by omega)
    generalize rd 10 0 (bs.drop (a+(rd 10 0 (bs.drop a)).2.1))=y at *
    generalize rd 10 0 (bs.drop a)=x at *
    rw [decide_eq_true (show ((out.length:Nat):Int) < (((out++[(prg1 n w x.1,(y.1:Int),())])++List.replicate m ((0,0,()):Rn)).length:Int) by simp;omega),Bool.and_self,cond_true]
    have hnth:nth ((out++[(prg1 n w x.1,(y.1:Int),())])++List.replicate m ((0,0,()):Rn)) out.length=some (prg1 n w x.1,(y.1:Int),()):=by
     rw [tnth]
     simp
    rw [hnth,Option.bind_some]
    simp only [List.length_append,List.length_cons,List.length_nil] at ih
    rw [show IntKind.i64.wrap (((out.length:Nat):Int)+1)=((out.length+1:Nat):Int) by rw [t64 (by omega) (by omega)];simp,show out.length+(m+1)=out.length+(0+1)+m by omega]
    refine ih.trans ?_
    show some (decP8 bs n (out++[(prg1 n w x.1,(y.1:Int),())]) (prg1 n w x.1) (rdP bs m (a+x.2.1+y.2.1)))=some (decP8 bs n out w ((rdP bs m (a+x.2.1+y.2.1)).1,(rdP bs m (a+x.2.1+y.2.1)).2.1,(x.1,y.1)::(rdP bs m (a+x.2.1+y.2.1)).2.2))
    simp only [decP8,prgR,List.append_assoc,List.singleton_append]
    rfl
   ·simp only [if_neg hy]
    rw [show ((rd 10 0 (bs.drop (a+(rd 10 0 (bs.drop a)).2.1))).2.2 != 0)=true by simpa using hy,cond_true]
    simp only [decP8,ne_eq,hy,not_false_eq_true,if_true]
    rfl
  ·simp only [if_neg hx]
   rw [show ((rd 10 0 (bs.drop a)).2.2 != 0)=true by simpa using hx,cond_true]
   simp only [decP8,ne_eq,hx,not_false_eq_true,if_true]
   rfl
theorem pDecode_eq (c:Cur) (n:Int) (hb:Bytes c.1) (hn : -9223372036854775808≤n∧n≤9223372036854775807):ctables_Decode (c,n)=some (decR c n):=by
 show ntables_Decode (fun _=>List.replicate) (iterV (gtables_Decode_0 (fun _=>List.replicate) big) big) (c,n)=_
 unfold ntables_Decode decR
 dsimp only
 rw [Left_eq c,Option.bind_some]
 by_cases hv:Valid c
 ·rw [if_pos hv,if_pos hv]
  simp only
  rw [show ((0:Int) != 0)=false from rfl,cond_false,count_eq8,Option.bind_some]
  by_cases h1:1≤n∧n≤200
  ·rw [decide_eq_true h1,Bool.not_true,cond_false,if_neg (by omega),unvary_eq c _ hb,if_pos hv,Option.bind_some]
   obtain ⟨bs,at_,u⟩:=c
   obtain ⟨g1,g2,g3⟩:=hv
   simp only at g1 g2 g3 hb
   obtain ⟨a,rfl⟩:=Int.eq_ofNat_of_zero_le g2
   rw [show IntKind.u64.wrap n=n by rw [wrap_u64];omega]
   simp only [Int.toNat_natCast,outc,Nat.zero_add,Nat.pow_zero,Nat.mul_one,decT]
   by_cases hx:(rd 10 0 (bs.drop a)).2.2=0
   ·obtain ⟨x1,x2,x3,x4⟩:=rd_good (bytes_drop hb a) hx
    simp only [List.length_drop] at x2
    simp only [if_pos hx]
    rw [if_neg (show ¬ (rd 10 0 (bs.drop a)).2.2≠0 from fun h=>h hx)]
    by_cases hk:((rd 10 0 (bs.drop a)).1:Int) > n
    ·rw [if_pos hk,if_pos hk]
     rfl
    ·rw [if_neg hk,if_neg hk]
     simp only
     rw [show ((0:Int) != 0)=false from rfl,cond_false,decide_eq_true (show (0:Int)≤((rd 10 0 (bs.drop a)).1:Int) by omega),decide_eq_true (Int.le_refl _),decide_eq_true (show ((rd 10 0 (bs.drop a)).1:Int)≤68719476736 by omega),Bool.and_self,Bool.and_self,Bool.and_self,cond_true,Int.toNat_natCast,List.length_replicate]
     have:=dec_loop8 big n h1 bs g1 hb (0,()) [] (rd 10 0 (bs.drop a)).1 (a+(rd 10 0 (bs.drop a)).2.1) 0 [] big (Int.le_refl _) (by simp) (by omega) (by simp;omega) (tbig (by omega))
     simp only [List.length_nil,Nat.zero_add,List.nil_append] at this
     refine this.trans ?_
     congr 1
     unfold decP8 decF
     simp only [List.nil_append]
     split
     ·rfl
     ·have hp:=prg_fine (n:=n) (by omega) (rdP bs (rd 10 0 (bs.drop a)).1 (a+(rd 10 0 (bs.drop a)).2.1)).2.2
      split
      ·rename_i hf
       rw [← hp (.inl hf),if_pos hf]
      ·rename_i hf
       rw [if_neg fun h=>hf (by rw [hp (.inr h)];exact h)]
   ·simp only [if_neg hx]
    rw [if_pos (show (rd 10 0 (bs.drop a)).2.2≠0 from hx),show ((rd 10 0 (bs.drop a)).2.2 != 0)=true by simpa using hx,cond_true]
    rfl
  ·rw [decide_eq_false h1,Bool.not_false,cond_true,if_pos (by omega)]
   rfl
 ·rw [if_neg hv,if_neg hv]
  rfl
end Go.Proofs.YtlhnlcbcikbokaaGreatDoor.T
